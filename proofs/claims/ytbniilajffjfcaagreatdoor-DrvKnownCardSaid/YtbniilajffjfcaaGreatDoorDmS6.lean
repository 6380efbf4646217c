/- Contracts of the reference's K and words. -/
import Derived.Test.YtbniilajffjfcaaGreatDoorDmS5
import Derived.Deep.RegionLaw
set_option linter.unusedVariables false
set_option linter.unusedSimpArgs false
namespace Go.Proofs.YtbniilajffjfcaaGreatDoor.Sha
open Go.RowKit Go.BigFrame

/-- Words in a slice of the call's own. -/
def wcellsL (c : Nat → UInt32) (n : Nat) : List Value := wcells c n
theorem kW_list : [Value.int .u32 1116352408, Value.int .u32 1899447441, Value.int .u32 3049323471, Value.int .u32 3921009573, Value.int .u32 961987163, Value.int .u32 1508970993, Value.int .u32 2453635748, Value.int .u32 2870763221, Value.int .u32 3624381080, Value.int .u32 310598401, Value.int .u32 607225278, Value.int .u32 1426881987, Value.int .u32 1925078388, Value.int .u32 2162078206, Value.int .u32 2614888103, Value.int .u32 3248222580, Value.int .u32 3835390401, Value.int .u32 4022224774, Value.int .u32 264347078, Value.int .u32 604807628, Value.int .u32 770255983, Value.int .u32 1249150122, Value.int .u32 1555081692, Value.int .u32 1996064986, Value.int .u32 2554220882, Value.int .u32 2821834349, Value.int .u32 2952996808, Value.int .u32 3210313671, Value.int .u32 3336571891, Value.int .u32 3584528711, Value.int .u32 113926993, Value.int .u32 338241895, Value.int .u32 666307205, Value.int .u32 773529912, Value.int .u32 1294757372, Value.int .u32 1396182291, Value.int .u32 1695183700, Value.int .u32 1986661051, Value.int .u32 2177026350, Value.int .u32 2456956037, Value.int .u32 2730485921, Value.int .u32 2820302411, Value.int .u32 3259730800, Value.int .u32 3345764771, Value.int .u32 3516065817, Value.int .u32 3600352804, Value.int .u32 4094571909, Value.int .u32 275423344, Value.int .u32 430227734, Value.int .u32 506948616, Value.int .u32 659060556, Value.int .u32 883997877, Value.int .u32 958139571, Value.int .u32 1322822218, Value.int .u32 1537002063, Value.int .u32 1747873779, Value.int .u32 1955562222, Value.int .u32 2024104815, Value.int .u32 2227730452, Value.int .u32 2361852424, Value.int .u32 2428436474, Value.int .u32 2756734187, Value.int .u32 3204031479, Value.int .u32 3329325298] = wcells kW 64 := by kernel_rfl

set_option maxRecDepth 100000 in
set_option maxHeartbeats 400000 in
theorem k_any (w : World) :
    Calls Tryz.prog 80 #[] w fun e w' => e = .returned (.slice (some ⟨w.heap.size, 0, none⟩) 64 64) ∧ Below w.heap.size w w' ∧ w'.heap[w.heap.size]? = some (.cells (wrow kW 64) 97) := by
  go_enter Tryz.func80, Tryz.ntmps80
  go_wp2_with fail
  go_ret
  refine ⟨rfl, (Below.refl _ _).alloc (Nat.le_refl _) _, ?_⟩
  exact (heap_alloc_new w _).trans (congrArg (fun l : List Value => some (Obj.cells l.toArray 97)) kW_list)
end Go.Proofs.YtbniilajffjfcaaGreatDoor.Sha

/- The contract of the reference's words. -/
namespace Go.Proofs.YtbniilajffjfcaaGreatDoor.Sha
open Go.RowKit Go.BigFrame

theorem word_or (b0 b1 b2 b3 : Nat) (h0 : b0 < 256) (h1 : b1 < 256) (h2 : b2 < 256) (h3 : b3 < 256) :
    UInt32.ofNat (b0 * 16777216) ||| UInt32.ofNat (b1 * 65536) ||| UInt32.ofNat (b2 * 256) ||| UInt32.ofNat b3 = UInt32.ofNat (((b0 * 256 + b1) * 256 + b2) * 256 + b3) := by
  apply UInt32.toNat_inj.1
  simp only [UInt32.toNat_or, UInt32.toNat_ofNat']
  rw [Nat.mod_eq_of_lt (show b0 * 16777216 < 2 ^ 32 by omega), Nat.mod_eq_of_lt (show b1 * 65536 < 2 ^ 32 by omega), Nat.mod_eq_of_lt (show b2 * 256 < 2 ^ 32 by omega), Nat.mod_eq_of_lt (show b3 < 2 ^ 32 by omega), Nat.mod_eq_of_lt (show ((b0 * 256 + b1) * 256 + b2) * 256 + b3 < 2 ^ 32 by omega)]
  rw [show b0 * 16777216 = 2 ^ 24 * b0 from by omega, ← Nat.two_pow_add_eq_or_of_lt (show b1 * 65536 < 2 ^ 24 by omega),
    show 2 ^ 24 * b0 + b1 * 65536 = 2 ^ 16 * (256 * b0 + b1) from by omega, ← Nat.two_pow_add_eq_or_of_lt (show b2 * 256 < 2 ^ 16 by omega),
    show 2 ^ 16 * (256 * b0 + b1) + b2 * 256 = 2 ^ 8 * (256 * (256 * b0 + b1) + b2) from by omega, ← Nat.two_pow_add_eq_or_of_lt (show b3 < 2 ^ 8 by omega)]
  omega
theorem word_bytes (B : Nat → Nat) (hB : ∀ i, B i < 256) (k : Nat) : UInt32.ofNat (B (4 * k) * 16777216) ||| UInt32.ofNat (B (4 * k + 1) * 65536) ||| UInt32.ofNat (B (4 * k + 2) * 256) ||| UInt32.ofNat (B (4 * k + 3)) = word B k := by
  rw [word_or _ _ _ _ (hB _) (hB _) (hB _) (hB _), word]
  simp only [pwn, Nat.zero_mul, Nat.zero_add, Nat.add_zero]
theorem ex_shl (b c : Nat) (h : b * c < 4294967296) : ∃ x : UInt32, Hid (x = UInt32.ofNat (b * c)) ∧ IntKind.u32.wrap ((b : Int) * (c : Int)) = (x.toNat : Int) := by
  refine ⟨_, Lib.hid rfl, ?_⟩
  rw [UInt32.toNat_ofNat', IntKind.wrap_u32', Nat.mod_eq_of_lt h, ← Int.natCast_mul]
  omega
theorem ex_or_nat (a : UInt32) (b : Nat) (h : b < 256) : ∃ v : UInt32, Hid (v = a ||| UInt32.ofNat b) ∧ bits .or .u32 (a.toNat : Int) (b : Int) = (v.toNat : Int) := by
  refine ⟨_, Lib.hid rfl, ?_⟩
  rw [show (b : Int) = ((UInt32.ofNat b).toNat : Int) from by rw [UInt32.toNat_ofNat', Nat.mod_eq_of_lt (by omega)], u_or]
theorem u32_one (x : Int) : ∀ u ∈ [Value.int .u32 x], u.oneCell' = true := by
  intro u hu; simp at hu; subst hu; rfl
/-- Words in a block. -/
def WRow (cur : Array Value) (T : Nat) (m : Nat → UInt32) : Prop := ∀ i, i < T → cur[i]? = some (.int .u32 ((m i).toNat : Int))
theorem own_words {w : World} {base n : Nat} {e : TypeId} {v : Value} {c : Nat → UInt32} (h : w.ownsRow base e 1 v n (wcells c n)) (hn : 0 < n) :
    ∃ g cap cur, v = .slice (some ⟨g, 0, none⟩) n cap ∧ base ≤ g ∧ w.heap[g]? = some (.cells cur e (0, 0)) ∧ WRow cur n c ∧ n ≤ cap ∧ cap ≤ maxLen := by
  obtain ⟨hl, ⟨rfl, h0⟩ | ⟨g, cap, cur, rfl, hg, hgg, h1, h2, h3, h4⟩⟩ := h
  · omega
  · refine ⟨g, cap, cur, rfl, hg, hgg, fun j hj => ?_, h1, h2⟩
    have := wcells_get c n j hj
    rw [← h4, List.getElem?_take_of_lt (by omega)] at this
    simpa using this

set_option maxRecDepth 100000 in
set_option maxHeartbeats 2000000 in
theorem refWords_any (B : Nat → Nat) (hB : ∀ i, B i < 256) (w : World) :
    Calls Tryz.prog 79 #[.agg (digA B 64)] w fun e w' => ∃ v, e = .returned v ∧ w'.ownsRow (w.heap.size + 1) 97 1 v 64 (wcells (wAt B) 64) ∧ Below w.heap.size w w' := by
  have HB := Lib.hid hB
  clear hB
  obtain ⟨i0, hi, hz0, hz1, hz2⟩ := info_parts infoU32
  go_enter Tryz.func79, Tryz.ntmps79
  go_upto_region 1 with (fail)
  obtain ⟨w1, hw1, hgB, hb, hsz⟩ := row_new w (.cells (digA B 64) 104)
  rw [← hw1]
  clear hw1 hsz
  go_wp2_with fail
  go_loopw [3, 4] (fun v i wr => ∃ k : Nat, k ≤ 16 ∧ i = .int .i64 k ∧ wr.heap[w.heap.size]? = some (.cells (digA B 64) 104) ∧ wr.ownsRow (w.heap.size + 1) 97 1 v k (wcells (wAt B) k) ∧ Below w.heap.size w wr) (fun _ i _ => 16 - (intOf i).toNat)
  case atStart => exact ⟨0, by omega, rfl, hgB, World.ownsRow_nil _ _ _ _, hb⟩
  case round =>
    clear hgB hb
    obtain ⟨k, hk, rfl, hgB, hown, hb⟩ := hrel
    have hsz := block_lt hgB
    by_cases hlt : k < 16
    · obtain ⟨n0, N0⟩ : ∃ n, Hid (n = 4 * k) := ⟨_, Lib.hid rfl⟩
      obtain ⟨n1, N1⟩ : ∃ n, Hid (n = 4 * k + 1) := ⟨_, Lib.hid rfl⟩
      obtain ⟨n2, N2⟩ : ∃ n, Hid (n = 4 * k + 2) := ⟨_, Lib.hid rfl⟩
      obtain ⟨n3, N3⟩ : ∃ n, Hid (n = 4 * k + 3) := ⟨_, Lib.hid rfl⟩
      have c0 : wr.cell? ⟨w.heap.size, n0, none⟩ = some (.int .u8 (B (4 * k) : Int)) := by rw [cell_of_row _ _ _ _ _ _ hgB, N0.out, digA_get _ _ _ (by omega)]
      have c1 : wr.cell? ⟨w.heap.size, n1, none⟩ = some (.int .u8 (B (4 * k + 1) : Int)) := by rw [cell_of_row _ _ _ _ _ _ hgB, N1.out, digA_get _ _ _ (by omega)]
      have c2 : wr.cell? ⟨w.heap.size, n2, none⟩ = some (.int .u8 (B (4 * k + 2) : Int)) := by rw [cell_of_row _ _ _ _ _ _ hgB, N2.out, digA_get _ _ _ (by omega)]
      have c3 : wr.cell? ⟨w.heap.size, n3, none⟩ = some (.int .u8 (B (4 * k + 3) : Int)) := by rw [cell_of_row _ _ _ _ _ _ hgB, N3.out, digA_get _ _ _ (by omega)]
      have m0 : (n0 : Int) < 64 := by have := N0.out; omega
      have m1 : (n1 : Int) < 64 := by have := N1.out; omega
      have m2 : (n2 : Int) < 64 := by have := N2.out; omega
      have m3 : (n3 : Int) < 64 := by have := N3.out; omega
      have j0 : IntKind.i64.wrap (4 * (k : Int)) = (n0 : Int) := by rw [IntWalk.i64_in _ (by omega)]; have := N0.out; omega
      have j1 : IntKind.i64.wrap ((n0 : Int) + 1) = (n1 : Int) := by rw [IntWalk.i64_in _ (by omega)]; have := N0.out; have := N1.out; omega
      have j2 : IntKind.i64.wrap ((n0 : Int) + 2) = (n2 : Int) := by rw [IntWalk.i64_in _ (by omega)]; have := N0.out; have := N2.out; omega
      have j3 : IntKind.i64.wrap ((n0 : Int) + 3) = (n3 : Int) := by rw [IntWalk.i64_in _ (by omega)]; have := N0.out; have := N3.out; omega
      have h0 := HB.out (4 * k)
      have h1 := HB.out (4 * k + 1)
      have h2 := HB.out (4 * k + 2)
      have h3 := HB.out (4 * k + 3)
      have HW := Lib.hid ((word_bytes B HB.out k).trans (wAt_low B k hlt).symm)
      generalize B (4 * k) = b0 at *
      generalize B (4 * k + 1) = b1 at *
      generalize B (4 * k + 2) = b2 at *
      generalize B (4 * k + 3) = b3 at *
      have v0 : IntKind.u32.wrap (b0 : Int) = (b0 : Int) := by rw [IntKind.wrap_u32']; omega
      have v1 : IntKind.u32.wrap (b1 : Int) = (b1 : Int) := by rw [IntKind.wrap_u32']; omega
      have v2 : IntKind.u32.wrap (b2 : Int) = (b2 : Int) := by rw [IntKind.wrap_u32']; omega
      have v3 : IntKind.u32.wrap (b3 : Int) = (b3 : Int) := by rw [IntKind.wrap_u32']; omega
      obtain ⟨x0, X0, e0⟩ := ex_shl b0 16777216 (by omega)
      obtain ⟨x1, X1, e1⟩ := ex_shl b1 65536 (by omega)
      obtain ⟨x2, X2, e2⟩ := ex_shl b2 256 (by omega)
      have e0 : IntKind.u32.wrap ((b0 : Int) * 16777216) = (x0.toNat : Int) := e0
      have e1 : IntKind.u32.wrap ((b1 : Int) * 65536) = (x1.toNat : Int) := e1
      have e2 : IntKind.u32.wrap ((b2 : Int) * 256) = (x2.toNat : Int) := e2
      obtain ⟨y1, Y1, r1⟩ := ex_or x0 x1
      obtain ⟨y2, Y2, r2⟩ := ex_or y1 x2
      obtain ⟨y3, Y3, r3⟩ := ex_or_nat y2 b3 h3
      have HY := Lib.hid (show y3 = wAt B k by rw [Y3.out, Y2.out, Y1.out, X0.out, X1.out, X2.out, HW.out])
      clear h0 h1 h2 h3 X0 X1 X2 Y1 Y2 Y3 HW
      go_wp2_with fail
      go_region_held3 (fun w' => w'.cell? ⟨w.heap.size, n0, none⟩ = some (.int .u8 (b0 : Int)) ∧ w'.cell? ⟨w.heap.size, n1, none⟩ = some (.int .u8 (b1 : Int)) ∧ w'.cell? ⟨w.heap.size, n2, none⟩ = some (.int .u8 (b2 : Int)) ∧ w'.cell? ⟨w.heap.size, n3, none⟩ = some (.int .u8 (b3 : Int))) (first | go_keep | (go_split_ands; refine ⟨?_, ?_, ?_, ?_⟩ <;> (rw [hgrow.cell_far _ (by simp; omega) (fun e => by have := (hown.lt w.heap.size e.symm).1; omega)]; assumption))) ((refine step_append_lies _ (by rfl) _ _ _ (by rfl) (w.heap.size + 1) 97 i0 _ 1 4 Tryz.underlying122 hi hz0 hz1 hz2 rfl (by omega) _ k _ (by rfl) ((hown.alloc _).drew) ⟨wr.heap.size, 0, none⟩ 1 1 [.int .u32 (y3.toNat : Int)] (by rfl) (by rfl) (World.news_of_block (cs := #[.int .u32 (y3.toNat : Int)]) (t := 97) (fr := (0, 0)) (heap_alloc_new wr _)) (by simp [Value.oneCell']) (by omega) (by unfold maxLen; omega) (by omega) (by simp; omega) (wr.heap.size + 1) (by simp) ?_; intro gg cap w1 hown1 hgrow hat hlt1))
      all_goals
        rw [HY.out, ← wcells_succ] at hown1
        have hb1 := ((hb.alloc (by omega) (.cells #[.int .u32 (y3.toNat : Int)] 97)).drew).grown hgrow (by simp; omega) (fun g hg => by have := (hown.lt g hg).1; omega)
        have hgB1 : w1.heap[w.heap.size]? = some (.cells (digA B 64) 104) := kept (show ((wr.alloc (.cells #[.int .u32 (y3.toNat : Int)] 97)).drew).heap[w.heap.size]? = _ from (old_block _ _ _ hsz).trans hgB) hgrow (fun e => by have := (hown.lt w.heap.size e.symm).1; omega)
        clear hown hgrow hat hlt1 hb hgB
        go_wp2_with fail
        go_roundw
        case rel => exact ⟨k + 1, by omega, by go_num, hgB1, hown1, hb1⟩
        case measure => simp [intOf]; omega
    · obtain rfl : k = 16 := by omega
      go_wp2_with fail
      go_loopw [3, 5] (fun v i wr => ∃ t : Nat, 16 ≤ t ∧ t ≤ 64 ∧ i = .int .i64 t ∧ wr.ownsRow (w.heap.size + 1) 97 1 v t (wcells (wAt B) t) ∧ Below w.heap.size w wr) (fun _ i _ => 64 - (intOf i).toNat)
      case atStart => exact ⟨16, by omega, by omega, rfl, hown, hb⟩
      case round =>
        clear hown hb hgB hsz hlt hk
        obtain ⟨t, h16, h64, rfl, hown, hb⟩ := hrel
        by_cases hlt : t < 64
        · obtain ⟨g, cap, cur, rfl, hbg, hgg, hrow, htc, hcm⟩ := own_words hown (by omega)
          unfold maxLen at hcm
          obtain ⟨q, rfl⟩ : ∃ q, t = q + 16 := ⟨t - 16, by omega⟩
          obtain ⟨n0, N0⟩ : ∃ n, Hid (n = q) := ⟨_, Lib.hid rfl⟩
          obtain ⟨n1, N1⟩ : ∃ n, Hid (n = q + 1) := ⟨_, Lib.hid rfl⟩
          obtain ⟨n9, N9⟩ : ∃ n, Hid (n = q + 9) := ⟨_, Lib.hid rfl⟩
          obtain ⟨n14, N14⟩ : ∃ n, Hid (n = q + 14) := ⟨_, Lib.hid rfl⟩
          obtain ⟨z0, Z0⟩ : ∃ z, Hid (z = wAt B q) := ⟨_, Lib.hid rfl⟩
          obtain ⟨z1, Z1⟩ : ∃ z, Hid (z = wAt B (q + 1)) := ⟨_, Lib.hid rfl⟩
          obtain ⟨z9, Z9⟩ : ∃ z, Hid (z = wAt B (q + 9)) := ⟨_, Lib.hid rfl⟩
          obtain ⟨z14, Z14⟩ : ∃ z, Hid (z = wAt B (q + 14)) := ⟨_, Lib.hid rfl⟩
          have c0 : wr.cell? ⟨g, n0, none⟩ = some (.int .u32 (z0.toNat : Int)) := by rw [cell_of_row _ _ _ _ _ _ hgg, hrow n0 (by have := N0.out; omega), Z0.out, N0.out]
          have c1 : wr.cell? ⟨g, n1, none⟩ = some (.int .u32 (z1.toNat : Int)) := by rw [cell_of_row _ _ _ _ _ _ hgg, hrow n1 (by have := N1.out; omega), Z1.out, N1.out]
          have c9 : wr.cell? ⟨g, n9, none⟩ = some (.int .u32 (z9.toNat : Int)) := by rw [cell_of_row _ _ _ _ _ _ hgg, hrow n9 (by have := N9.out; omega), Z9.out, N9.out]
          have c14 : wr.cell? ⟨g, n14, none⟩ = some (.int .u32 (z14.toNat : Int)) := by rw [cell_of_row _ _ _ _ _ _ hgg, hrow n14 (by have := N14.out; omega), Z14.out, N14.out]
          have r15 : IntKind.i64.wrap ((q : Int) + 16 - 15) = (n1 : Int) := by rw [IntWalk.i64_in _ (by omega)]; have := N1.out; omega
          have r2 : IntKind.i64.wrap ((q : Int) + 16 - 2) = (n14 : Int) := by rw [IntWalk.i64_in _ (by omega)]; have := N14.out; omega
          have r7 : IntKind.i64.wrap ((q : Int) + 16 - 7) = (n9 : Int) := by rw [IntWalk.i64_in _ (by omega)]; have := N9.out; omega
          have r16 : IntKind.i64.wrap ((q : Int) + 16 - 16) = (n0 : Int) := by rw [IntWalk.i64_in _ (by omega)]; have := N0.out; omega
          have r16' : IntKind.i64.wrap (q : Int) = (n0 : Int) := by rw [IntWalk.i64_in _ (by omega)]; have := N0.out; omega
          have b1 : (n1 : Int) < (q : Int) + 16 := by have := N1.out; omega
          have b9 : (n9 : Int) < (q : Int) + 16 := by have := N9.out; omega
          have b14 : (n14 : Int) < (q : Int) + 16 := by have := N14.out; omega
          have b0 : (n0 : Int) < (q : Int) + 16 := by have := N0.out; omega
          have hl64 : decide ((q : Int) + 16 < 64) = true := decide_eq_true (by omega)
          have HO := Lib.hid hown
          clear hown hrow hgg htc
          go_wp2_with fail
          go_quiet (fail)
          clear c1 c14 r15 r2 b1 b14 N1 N14
          obtain ⟨p1, P1, k1⟩ := ex_xor (rotr z1 7) (rotr z1 18)
          obtain ⟨p2, P2, k2⟩ := ex_shr z1 3
          rw [show (2 : Int) ^ 3 = 8 from rfl] at k2
          obtain ⟨p3, P3, k3⟩ := ex_xor p1 p2
          obtain ⟨q1, Q1, k4⟩ := ex_xor (rotr z14 17) (rotr z14 19)
          obtain ⟨q2, Q2, k5⟩ := ex_shr z14 10
          rw [show (2 : Int) ^ 10 = 1024 from rfl] at k5
          obtain ⟨q3, Q3, k6⟩ := ex_xor q1 q2
          go_wp2_with fail
          refine (turned_at 7 z1 7 _ rfl (by decide) (by decide)).mono ?_
          rintro _ _ ⟨rfl, d1, rfl⟩
          go_wp2_with fail
          refine (turned_at 18 z1 18 _ rfl (by decide) (by decide)).mono ?_
          rintro _ _ ⟨rfl, d2, rfl⟩
          go_wp2_with fail
          refine (turned_at 17 z14 17 _ rfl (by decide) (by decide)).mono ?_
          rintro _ _ ⟨rfl, d3, rfl⟩
          go_wp2_with fail
          refine (turned_at 19 z14 19 _ rfl (by decide) (by decide)).mono ?_
          rintro _ _ ⟨rfl, d4, rfl⟩
          go_wp2_with fail
          clear k1 k2 k3 k4 k5 k6
          obtain ⟨wz, hwz, d0, d9, HOz, hbz⟩ : ∃ wz, wz = wr.drewN (nq + d1 + d2 + d3 + d4) ∧ wz.cell? ⟨g, n0, none⟩ = some (.int .u32 (z0.toNat : Int)) ∧ wz.cell? ⟨g, n9, none⟩ = some (.int .u32 (z9.toNat : Int)) ∧ wz.ownsRow (w.heap.size + 1) 97 1 (.slice (some ⟨g, 0, none⟩) (q + 16) cap) (q + 16) (wcells (wAt B) (q + 16)) ∧ Below w.heap.size w wz := ⟨_, rfl, c0, c9, HO.out, below_drewN hb _⟩
          rw [← hwz]
          clear hwz c0 c9 HO hb
          obtain ⟨a1, A1, l1, l1'⟩ := ex_add z0 p3
          obtain ⟨a2, A2, l2, l2'⟩ := ex_add a1 z9
          obtain ⟨a3, A3, l3, l3'⟩ := ex_add a2 q3
          have HY := Lib.hid (show a3 = wAt B (q + 16) by
            rw [wAt_up B q (by omega), ← Z0.out, ← Z1.out, ← Z9.out, ← Z14.out, A3.out, A2.out, A1.out, Q3.out, Q2.out, Q1.out, P3.out, P2.out, P1.out]
            rfl)
          clear Z0 Z1 Z9 Z14 A1 A2 A3 P1 P2 P3 Q1 Q2 Q3 N9 N0
          have hzg : g < wz.heap.size := block_lt_of_cell d0
          have hzw : w.heap.size + 1 ≤ wz.heap.size := by omega
          go_region_law ((refine step_append_lies _ (by rfl) _ _ _ (by rfl) (w.heap.size + 1) 97 i0 _ 1 4 Tryz.underlying122 hi hz0 hz1 hz2 rfl (by omega) _ (q + 16) _ (by rfl) ((HOz.alloc _).drew) ⟨wz.heap.size, 0, none⟩ 1 1 [.int .u32 (a3.toNat : Int)] (by rfl) (by rfl) (World.news_of_block (cs := #[.int .u32 (a3.toNat : Int)]) (t := 97) (fr := (0, 0)) (heap_alloc_new wz _)) (by simp [Value.oneCell']) (by omega) (by unfold maxLen; omega) (by omega) (by simp; omega) (wz.heap.size + 1) (by simp) ?_; intro gg cap w1 hown1 hgrow hat hlt1))
          all_goals
            rw [HY.out, ← wcells_succ] at hown1
            have hb1 := ((hbz.alloc (by omega) (.cells #[.int .u32 (a3.toNat : Int)] 97)).drew).grown hgrow (by simp; omega) (fun g hg => by have := (HOz.lt g hg).1; omega)
            clear HOz hgrow hat hlt1 hbz
            go_wp2_with fail
            go_roundw
            case rel =>
              (repeat apply Exists.intro)
              refine ⟨⟨q + 16 + 1, by omega, by omega, by go_num, hown1, hb1⟩, rfl⟩
            case measure => simp [intOf]; omega
        · obtain rfl : t = 64 := by omega
          go_wp2_with fail
          go_ret
          exact ⟨_, rfl, hown, hb⟩
end Go.Proofs.YtbniilajffjfcaaGreatDoor.Sha

/- The contract of the reference's Block. -/
namespace Go.Proofs.YtbniilajffjfcaaGreatDoor.Sha
open Go.RowKit Go.BigFrame

theorem raw_xr {e g kk y s3 s4 s5 s6 s7 s8 s9 x : UInt32} (S5 : Hid (s5 = ~~~e)) (S6 : Hid (s6 = s5 &&& g)) (S7 : Hid (s7 = s4 ^^^ s6)) (S8 : Hid (s8 = s3 + s7)) (S9 : Hid (s9 = s8 + kk)) (X : Hid (x = s9 + y)) :
    (((s3.toNat : Int) + bits .xor .u32 (s4.toNat : Int) (bits .and .u32 (bits .xor .u32 (if IntKind.u32.signed = true then -1 else IntKind.u32.max) (e.toNat : Int)) (g.toNat : Int)) + (kk.toNat : Int)) % 4294967296 + (y.toNat : Int)) % 4294967296 = (x.toNat : Int) := by
  rw [show (if IntKind.u32.signed = true then (-1 : Int) else IntKind.u32.max) = IntKind.u32.max from rfl]
  rw [show bits .xor .u32 IntKind.u32.max (e.toNat : Int) = (s5.toNat : Int) from by rw [S5.out]; exact u_not e, u_and, ← S6.out, u_xor, ← S7.out, X.out, S9.out, S8.out, UInt32.toNat_add, UInt32.toNat_add, UInt32.toNat_add]
  omega
theorem rnd_ofr {a b c d e f g h kk y s1 s2 s3 s4 s5 s6 s7 s8 s9 x t1 t2 t3 t4 t5 t6 t7 v dn an : UInt32} (S1 : Hid (s1 = rotr e 6 ^^^ rotr e 11)) (S2 : Hid (s2 = s1 ^^^ rotr e 25)) (S3 : Hid (s3 = h + s2)) (S4 : Hid (s4 = e &&& f)) (S5 : Hid (s5 = ~~~e)) (S6 : Hid (s6 = s5 &&& g)) (S7 : Hid (s7 = s4 ^^^ s6)) (S8 : Hid (s8 = s3 + s7)) (S9 : Hid (s9 = s8 + kk)) (X : Hid (x = s9 + y))
    (T1 : Hid (t1 = rotr a 2 ^^^ rotr a 13)) (T2 : Hid (t2 = t1 ^^^ rotr a 22)) (T3 : Hid (t3 = a &&& b)) (T4 : Hid (t4 = a &&& c)) (T5 : Hid (t5 = t3 ^^^ t4)) (T6 : Hid (t6 = b &&& c)) (T7 : Hid (t7 = t5 ^^^ t6)) (V : Hid (v = t2 + t7)) (D : Hid (dn = d + x)) (A : Hid (an = x + v)) : (⟨an, a, b, c, dn, e, f, g⟩ : St) = rnd kk y ⟨a, b, c, d, e, f, g, h⟩ := by
  have hx : x = tA kk y ⟨a, b, c, d, e, f, g, h⟩ := by
    rw [X.out, S9.out, S8.out, S7.out, S6.out, S5.out, S4.out, S3.out, S2.out, S1.out]; rfl
  have hv : v = tB ⟨a, b, c, d, e, f, g, h⟩ := by
    rw [V.out, T7.out, T6.out, T5.out, T4.out, T3.out, T2.out, T1.out]; rfl
  rw [A.out, D.out, hx, hv]
  rfl
theorem wrow_row (c : Nat → UInt32) (n : Nat) : WRow (wrow c n) n c := fun i hi => wrow_get c n i hi
theorem wrow_st (c : Nat → UInt32) : wrow c 8 = wrow (St.at (stOf c)) 8 := rfl
/-- The blocks that the reference's Block goes by. -/
structure Kept8 (B0 gw gk r : Nat) (cw : Array Value) (B : Nat → Nat) (c : Nat → UInt32) (W wr : World) : Prop where
  hgC : wr.heap[B0]? = some (.cells (wrow c 8) 98 (0, 0))
  hgR : wr.heap[B0 + 2]? = some (.cells (wrow (fun _ => 0) 8) 98 (0, 0))
  hgw : wr.heap[gw]? = some (.cells cw 97 (0, 0))
  hgk : wr.heap[gk]? = some (.cells (wrow kW 64) 97 (0, 0))
  hB : Below B0 W wr
  hw : WRow cw 64 (wAt B)
  lw : B0 + 3 ≤ gw
  lk : B0 + 3 ≤ gk
  lr : gw < r ∧ gk < r ∧ B0 + 3 ≤ r
theorem Kept8.drewN {B0 gw gk r : Nat} {cw : Array Value} {B : Nat → Nat} {c : Nat → UInt32} {W wr : World} (h : Kept8 B0 gw gk r cw B c W wr) (n : Nat) : Kept8 B0 gw gk r cw B c W (wr.drewN n) :=
  ⟨h.hgC, h.hgR, h.hgw, h.hgk, below_drewN h.hB n, h.hw, h.lw, h.lk, h.lr⟩
theorem Kept8.setRow {B0 gw gk r : Nat} {cw : Array Value} {B : Nat → Nat} {c : Nat → UInt32} {W wr : World} (h : Kept8 B0 gw gk r cw B c W wr) (cs : Array Value) : Kept8 B0 gw gk r cw B c W (wr.setRow r cs) := by
  obtain ⟨l1, l2, l3⟩ := h.lr
  exact ⟨(setRow_other _ _ _ _ (by omega)).trans h.hgC, (setRow_other _ _ _ _ (by omega)).trans h.hgR, (setRow_other _ _ _ _ (by omega)).trans h.hgw, (setRow_other _ _ _ _ (by omega)).trans h.hgk, below_setRow h.hB (by omega) _, h.hw, h.lw, h.lk, h.lr⟩
theorem Kept8.setCell {B0 gw gk r : Nat} {cw : Array Value} {B : Nat → Nat} {c : Nat → UInt32} {W wr : World} (h : Kept8 B0 gw gk r cw B c W wr) (j : Nat) (v : Value) : Kept8 B0 gw gk r cw B c W (wr.setCell ⟨r, j, none⟩ v) := by
  obtain ⟨l1, l2, l3⟩ := h.lr
  exact ⟨(heap_setCell_other wr _ _ _ (by show B0 ≠ r; omega)).trans h.hgC, (heap_setCell_other wr _ _ _ (by show B0 + 2 ≠ r; omega)).trans h.hgR, (heap_setCell_other wr _ _ _ (by show gw ≠ r; omega)).trans h.hgw, (heap_setCell_other wr _ _ _ (by show gk ≠ r; omega)).trans h.hgk, h.hB.setCell (by show B0 ≤ r; omega) _, h.hw, h.lw, h.lk, h.lr⟩

/-- The state while the chain's words are put to it. -/
def mixS (c : Nat → UInt32) (s : St) (k i : Nat) : UInt32 := if i < k then s.at i + c i else s.at i
theorem mixs_zero (c : Nat → UInt32) (s : St) : mixS c s 0 = s.at := by funext i; simp [mixS]
theorem mixs_all (c : Nat → UInt32) (B : Nat → Nat) (s : St) (h : s = rounds (wAt B) (stOf c) 64) : wrow (mixS c s 8) 8 = wrow (block c B) 8 :=
  wrow_congr _ _ _ fun i hi => by rw [mixS, if_pos hi, block, h]
theorem mixs_set (c : Nat → UInt32) (s : St) (k : Nat) (y : UInt32) (hy : y = s.at k + c k) : (wrow (mixS c s k) 8).setIfInBounds k (.int .u32 (y.toNat : Int)) = wrow (mixS c s (k + 1)) 8 := by
  have e : y = mixS c s (k + 1) k := by rw [mixS, if_pos (by omega), hy]
  rw [e]
  exact wrow_set _ _ _ _ fun i _ hne => by unfold mixS; split <;> split <;> first | rfl | omega

set_option maxRecDepth 100000 in
set_option maxHeartbeats 2000000 in
theorem refBlock_any (c : Nat → UInt32) (B : Nat → Nat) (hB : ∀ i, B i < 256) (w : World) :
    Calls Tryz.prog 66 #[.agg (wrow c 8), .agg (digA B 64)] w fun e w' => e = .returned (.agg (wrow (block c B) 8)) ∧ Below w.heap.size w w' := by
  have HB := Lib.hid hB
  clear hB
  go_enter Tryz.func66, Tryz.ntmps66
  go_upto_region 1 with (fail)
  rw [zeros8]
  obtain ⟨w1, hw1, hgC, hgB, hgR, hb, hsz⟩ := rows3 w (.cells (wrow c 8) 98) (.cells (digA B 64) 104) (.cells (wrow (fun _ => 0) 8) 98)
  rw [← hw1]
  clear hw1
  go_wp2_with (refine wpList_load_row rfl 104 _ rfl (w.heap.size + 1) rfl 104 _ (0, 0) _ hgB Tryz.underlying104 rfl (by rw [digA_size]; exact info64) ?_)
  refine (refWords_any B HB.out _).mono ?_
  rintro e w2 ⟨v5, rfl, hown5, hb2⟩
  obtain ⟨gw, capw, cw, rfl, hbg, hgw, hrow, h64, hcm⟩ := own_words hown5 (by omega)
  have hgC2 := (hb2.block w.heap.size (by omega)).trans hgC
  have hgR2 := (hb2.block (w.heap.size + 2) (by omega)).trans hgR
  have hB2 := below_step hb hb2 hb.size
  have hz2 : w.heap.size + 3 ≤ w2.heap.size := by have := hb2.size; omega
  have hlw : w.heap.size + 3 ≤ gw := by omega
  have hlw2 := block_lt hgw
  clear hgC hgR hb hb2 hsz hgB hown5 hbg
  go_wp2_with fail
  refine (k_any w2).mono ?_
  rintro e w3 ⟨rfl, hb3, hgk⟩
  have hgC3 := (hb3.block w.heap.size (by omega)).trans hgC2
  have hgR3 := (hb3.block (w.heap.size + 2) (by omega)).trans hgR2
  have hgw3 := (hb3.block gw (by omega)).trans hgw
  have hB3 := below_step hB2 hb3 (by omega)
  have hz3 := block_lt hgk
  generalize hgkn : w2.heap.size = gk at *
  clear hgC2 hgR2 hB2 hgw hb3 hgkn w2
  go_wp2_with (first | (refine wpList_load_row rfl 98 _ rfl w.heap.size rfl 98 _ (0, 0) _ hgC3 Tryz.underlying98 rfl (by rw [wrow_size]; exact info8w) ?_) | (refine wpList_store_row rfl 98 _ _ rfl w3.heap.size (wrow c 8) rfl rfl 98 _ (heap_alloc_new _ _) (by rw [wrow_size]; exact info8w) (by rw [wrow_size]; rfl) (wrow_ok _ _) ?_))
  obtain ⟨w4, hw4, hgX, hold, hB4, hz4⟩ := row_put w.heap.size w w3 #[Value.int IntKind.u32 0, Value.int IntKind.u32 0, Value.int IntKind.u32 0, Value.int IntKind.u32 0, Value.int IntKind.u32 0, Value.int IntKind.u32 0, Value.int IntKind.u32 0, Value.int IntKind.u32 0] (wrow c 8) 98 hB3 (by omega)
  rw [← hw4]
  rw [wrow_st] at hgX
  obtain ⟨r, hr⟩ : ∃ r, r = w3.heap.size := ⟨_, rfl⟩
  have KP : Kept8 w.heap.size gw gk r cw B c w w4 := ⟨(hold w.heap.size (by omega)).trans hgC3, (hold (w.heap.size + 2) (by omega)).trans hgR3, (hold gw (by omega)).trans hgw3, (hold gk (by omega)).trans hgk, hB4, hrow, by omega, by omega, by omega, by omega, by omega⟩
  rw [← hr] at hgX
  rw [← hr]
  clear hw4 hold hB4 hz4 hgC3 hgR3 hgw3 hgk hB3 hz3 hr w3 w1 hrow hlw hlw2 hz2 hcm
  go_loopw [8] (fun i wr => ∃ (t : Nat) (s : St), t ≤ 64 ∧ i = .int .i64 t ∧ Hid (s = rounds (wAt B) (stOf c) t) ∧ wr.heap[r]? = some (.cells (wrow (St.at s) 8) 98) ∧ Kept8 w.heap.size gw gk r cw B c w wr) (fun i _ => 64 - (intOf i).toNat)
  case atStart => exact ⟨0, _, by omega, rfl, Lib.hid rfl, hgX, KP⟩
  case round =>
    clear hgX KP
    obtain ⟨t, ⟨a, b, c', d, e, f, g, hh⟩, ht, rfl, HS, hgX, KP⟩ := hrel
    by_cases hlt : t < 64
    · have i64' : (t : Int) < 64 := by omega
      have hc0 : wr.cell? ⟨r, 0, none⟩ = some (.int .u32 (a.toNat : Int)) := by rw [cell_of_row _ _ _ _ _ _ hgX]; rfl
      have hc1 : wr.cell? ⟨r, 1, none⟩ = some (.int .u32 (b.toNat : Int)) := by rw [cell_of_row _ _ _ _ _ _ hgX]; rfl
      have hc2 : wr.cell? ⟨r, 2, none⟩ = some (.int .u32 (c'.toNat : Int)) := by rw [cell_of_row _ _ _ _ _ _ hgX]; rfl
      have hc3 : wr.cell? ⟨r, 3, none⟩ = some (.int .u32 (d.toNat : Int)) := by rw [cell_of_row _ _ _ _ _ _ hgX]; rfl
      have hc4 : wr.cell? ⟨r, 4, none⟩ = some (.int .u32 (e.toNat : Int)) := by rw [cell_of_row _ _ _ _ _ _ hgX]; rfl
      have hc5 : wr.cell? ⟨r, 5, none⟩ = some (.int .u32 (f.toNat : Int)) := by rw [cell_of_row _ _ _ _ _ _ hgX]; rfl
      have hc6 : wr.cell? ⟨r, 6, none⟩ = some (.int .u32 (g.toNat : Int)) := by rw [cell_of_row _ _ _ _ _ _ hgX]; rfl
      have hc7 : wr.cell? ⟨r, 7, none⟩ = some (.int .u32 (hh.toNat : Int)) := by rw [cell_of_row _ _ _ _ _ _ hgX]; rfl
      have HX := Lib.hid hgX
      have HKP := Lib.hid KP
      clear hgX KP
      go_wp2_with fail
      go_quiet (fail)
      rename Nat => nq0
      clear hc0 hc1 hc2 hc3 hc4 hc5 hc6 hc7
      obtain ⟨wz, hwz, hgX, KP⟩ : ∃ wz, wz = wr.drewN nq0 ∧ wz.heap[r]? = some (.cells (wrow (St.at ⟨a, b, c', d, e, f, g, hh⟩) 8) 98) ∧ Kept8 w.heap.size gw gk r cw B c w wz := ⟨_, rfl, HX.out, HKP.out.drewN _⟩
      rw [← hwz]
      clear hwz HX HKP
      obtain ⟨kk, KK⟩ : ∃ z, Hid (z = kW t) := ⟨_, Lib.hid rfl⟩
      obtain ⟨yy, YY⟩ : ∃ z, Hid (z = wAt B t) := ⟨_, Lib.hid rfl⟩
      have hkc : wz.cell? ⟨gk, t, none⟩ = some (.int .u32 (kk.toNat : Int)) := by rw [KK.out, cell_of_row _ _ _ _ _ _ KP.hgk]; exact wrow_get _ _ _ hlt
      have hwc : wz.cell? ⟨gw, t, none⟩ = some (.int .u32 (yy.toNat : Int)) := by rw [YY.out, cell_of_row _ _ _ _ _ _ KP.hgw]; exact KP.hw t hlt
      have HX := Lib.hid hgX
      have HKP := Lib.hid KP
      clear hgX KP
      obtain ⟨s1, S1, l1⟩ := ex_xor (rotr e 6) (rotr e 11)
      obtain ⟨s2, S2, l2⟩ := ex_xor s1 (rotr e 25)
      obtain ⟨s3, S3, l3, l3'⟩ := ex_add hh s2
      obtain ⟨s4, S4, l4⟩ := ex_and e f
      obtain ⟨s5, S5, l5⟩ := ex_not e
      obtain ⟨s6, S6, l6⟩ := ex_and s5 g
      obtain ⟨s7, S7, l7⟩ := ex_xor s4 s6
      obtain ⟨s8, S8, l8, l8'⟩ := ex_add s3 s7
      obtain ⟨s9, S9, l9, l9'⟩ := ex_add s8 kk
      obtain ⟨x, X, l10, l10'⟩ := ex_add s9 yy
      go_wp2_with fail
      go_quiet ((first | (go_at_call 81; exact Calls.quiet_of (turned_at 6 _ _ _ rfl (by decide) (by decide))) | (go_at_call 81; exact Calls.quiet_of (turned_at 11 _ _ _ rfl (by decide) (by decide))) | (go_at_call 81; exact Calls.quiet_of (turned_at 25 _ _ _ rfl (by decide) (by decide)))))
      rw [raw_xr S5 S6 S7 S8 S9 X]
      clear l1 l2 l3 l3' l4 l5 l6 l7 l8 l8' l9 l9' l10 l10' hkc hwc i64'
      obtain ⟨t1, T1, l1⟩ := ex_xor (rotr a 2) (rotr a 13)
      obtain ⟨t2, T2, l2⟩ := ex_xor t1 (rotr a 22)
      obtain ⟨t3, T3, l3⟩ := ex_and a b
      obtain ⟨t4, T4, l4⟩ := ex_and a c'
      obtain ⟨t5, T5, l5⟩ := ex_xor t3 t4
      obtain ⟨t6, T6, l6⟩ := ex_and b c'
      obtain ⟨t7, T7, l7⟩ := ex_xor t5 t6
      obtain ⟨v, V, l8, l8'⟩ := ex_add t2 t7
      obtain ⟨dn, DN, l9, l9'⟩ := ex_add d x
      obtain ⟨an, AN, l10, l10'⟩ := ex_add x v
      have HR := Lib.hid (show (⟨an, a, b, c', dn, e, f, g⟩ : St) = rounds (wAt B) (stOf c) (t + 1) by rw [rnd_ofr S1 S2 S3 S4 S5 S6 S7 S8 S9 X T1 T2 T3 T4 T5 T6 T7 V DN AN, rounds, ← HS.out, KK.out, YY.out])
      clear S1 S2 S3 S4 S5 S6 S7 S8 S9 X T1 T2 T3 T4 T5 T6 T7 V DN AN HS KK YY
      go_wp2_with fail
      refine (turned_at 2 a 2 _ rfl (by decide) (by decide)).mono ?_
      rintro _ _ ⟨rfl, d1, rfl⟩
      go_wp2_with fail
      refine (turned_at 13 a 13 _ rfl (by decide) (by decide)).mono ?_
      rintro _ _ ⟨rfl, d2, rfl⟩
      go_wp2_with fail
      refine (turned_at 22 a 22 _ rfl (by decide) (by decide)).mono ?_
      rintro _ _ ⟨rfl, d3, rfl⟩
      obtain ⟨wy, hwy, hgX, KP⟩ : ∃ wy, wy = (((wz.drewN nq).drewN d1).drewN d2).drewN d3 ∧ wy.heap[r]? = some (.cells (wrow (St.at ⟨a, b, c', d, e, f, g, hh⟩) 8) 98) ∧ Kept8 w.heap.size gw gk r cw B c w wy := ⟨_, rfl, HX.out, (((HKP.out.drewN _).drewN _).drewN _).drewN _⟩
      try simp only [World.drewN_drewN] at hwy
      try simp only [World.drewN_drewN]
      rw [← hwy]
      clear hwy HX HKP
      go_wp2_with (refine wpList_store_row rfl 98 _ _ rfl r (wrow (St.at ⟨an, a, b, c', dn, e, f, g⟩) 8) rfl rfl 98 _ hgX (by rw [wrow_size]; exact info8w) (by rw [wrow_size, wrow_size]) (wrow_ok _ _) ?_)
      have hgX2 := setRow_heap wy r _ (wrow (St.at ⟨an, a, b, c', dn, e, f, g⟩) 8) _ _ hgX
      have KP2 := KP.setRow (wrow (St.at ⟨an, a, b, c', dn, e, f, g⟩) 8)
      clear hgX KP
      go_roundw
      case rel => exact ⟨t + 1, _, by omega, by go_num, HR, hgX2, KP2⟩
      case measure => simp [intOf]; omega
    · obtain rfl : t = 64 := by omega
      obtain ⟨s, HSS⟩ : ∃ s : St, Hid (s = ⟨a, b, c', d, e, f, g, hh⟩) := ⟨_, Lib.hid rfl⟩
      rw [← HSS.out, ← mixs_zero c s] at hgX
      have HS2 := Lib.hid (HSS.out.trans HS.out)
      clear HS HSS
      go_wp2_with fail
      go_loopw [19] (fun i wr => ∃ k : Nat, k ≤ 8 ∧ i = .int .i64 k ∧ wr.heap[r]? = some (.cells (wrow (mixS c s k) 8) 98) ∧ Kept8 w.heap.size gw gk r cw B c w wr) (fun i _ => 8 - (intOf i).toNat)
      case atStart => exact ⟨0, by omega, rfl, hgX, KP⟩
      case round =>
        clear hgX KP
        obtain ⟨k, hk, rfl, hgX, KP⟩ := hrel
        by_cases hlt : k < 8
        · obtain ⟨z0, Z0⟩ : ∃ z, Hid (z = s.at k) := ⟨_, Lib.hid rfl⟩
          obtain ⟨z1, Z1⟩ : ∃ z, Hid (z = c k) := ⟨_, Lib.hid rfl⟩
          have hcs : wr.cell? ⟨r, k, none⟩ = some (.int .u32 (z0.toNat : Int)) := by
            rw [cell_of_row _ _ _ _ _ _ hgX, wrow_get _ _ _ hlt, Z0.out, mixS, if_neg (by omega)]
          have hcc : wr.cell? ⟨w.heap.size, k, none⟩ = some (.int .u32 (z1.toNat : Int)) := by
            rw [cell_of_row _ _ _ _ _ _ KP.hgC, wrow_get _ _ _ hlt, Z1.out]
          have hfr : wr.frozen? ⟨r, k, none⟩ = false := frozen_of_row _ _ _ _ _ hgX
          have i8 : (k : Int) < 8 := by omega
          obtain ⟨y, Y, l1, l1'⟩ := ex_add z0 z1
          obtain ⟨wz, hwz, hgXz, KPz⟩ : ∃ wz, wz = (wr.setCell ⟨r, k, none⟩ (.int .u32 (y.toNat : Int))).drew ∧ wz.heap[r]? = some (.cells (wrow (mixS c s (k + 1)) 8) 98) ∧ Kept8 w.heap.size gw gk r cw B c w wz := by
            refine ⟨_, rfl, ?_, (KP.setCell _ _).drewN 1⟩
            show (wr.setCell ⟨r, k, none⟩ (.int .u32 (y.toNat : Int))).heap[r]? = _
            rw [heap_setCell_same wr r k _ _ _ hgX, mixs_set c s k y (by rw [Y.out, Z0.out, Z1.out])]
          clear hgX KP Z0 Z1 Y
          go_wp2_with fail
          refine wp_region_still_tail 9 (by kernel_rfl) (by kernel_rfl) ?_
          simp only [List.take_succ_cons, List.take_zero, List.drop_succ_cons, List.drop_zero]
          repeat still_step
          refine wpStill_nil ?_
          go_wp2
          rw [← hwz]
          go_roundw
          case rel =>
            (repeat apply Exists.intro)
            refine ⟨⟨k + 1, by omega, by go_num, hgXz, KPz⟩, rfl⟩
          case measure => simp [intOf]; omega
        · obtain rfl : k = 8 := by omega
          rw [mixs_all c B s HS2.out] at hgX
          have hgR := KP.hgR
          have hb := KP.hB
          go_wp2_with (first | (refine wpList_load_row rfl 98 _ rfl r rfl 98 _ (0, 0) _ hgX Tryz.underlying98 rfl (by rw [wrow_size]; exact info8w) ?_) | (refine wpList_store_row rfl 98 _ _ rfl (w.heap.size + 2) (wrow (block c B) 8) rfl rfl 98 _ hgR (by rw [wrow_size]; exact info8w) (by rw [wrow_size, wrow_size]) (wrow_ok _ _) ?_))
          refine bodyPost_ret (v := .agg (wrow (block c B) 8)) (results_cell_row Tryz.results66 _ _ (w.heap.size + 2) 98 _ (0, 0) _ rfl (setRow_heap _ _ _ _ _ _ hgR) Tryz.underlying98 rfl (by rw [wrow_size]; exact info8w)) rfl ?_
          exact ⟨rfl, below_setRow hb (by omega) _⟩
end Go.Proofs.YtbniilajffjfcaaGreatDoor.Sha

/- The walk of the law ShaBlocks. -/
namespace Go.Proofs.YtbniilajffjfcaaGreatDoor.Sha
open Go.RowKit Go.BigFrame

theorem info64c (d : Nat → Nat) : (Tryz.prog.info? 104).map (·.size) = some (cells d 64).length := by rw [cells_len]; exact info64
theorem run_equal_words (w : World) (f : Nat → UInt32) : (Op.equalIn 10000 98 (.agg (wrow f 8)) (.agg (wrow f 8))).run Tryz.prog w = .ok true w := by
  rw [run_equal_ints w 9998 8 98 97 .u32 .u32 (fun i => ((f i).toNat : Int)) (fun i => ((f i).toNat : Int)) _ _ Tryz.underlying98 Tryz.underlying97 cellsU32 fun i hi => ⟨wrow_get _ _ _ hi, wrow_get _ _ _ hi⟩]
  congr 1
  rw [List.all_eq_true]
  intro i _
  simp
def SCB (gC gB : Nat) (c : Nat → UInt32) (d : Nat → Nat) (w : World) : Prop := (w.rangeAt gC 0 (wcells c 8) ∧ gC < w.heap.size) ∧ (w.rangeAt gB 0 (cells d 64) ∧ gB < w.heap.size)
theorem SCB.below {gC gB : Nat} {c : Nat → UInt32} {d : Nat → Nat} {w w' : World} (s : SCB gC gB c d w) (hb : Below w.heap.size w w') : SCB gC gB c d w' :=
  ⟨⟨range_below hb s.1.2 s.1.1, Nat.lt_of_lt_of_le s.1.2 hb.size⟩, ⟨range_below hb s.2.2 s.2.1, Nat.lt_of_lt_of_le s.2.2 hb.size⟩⟩

end Go.Proofs.YtbniilajffjfcaaGreatDoor.Sha
