/- The walk of the law CrcBursts. -/
import Derived.Test.YtdmikdpajijahaaCrcD
import Derived.Test.YtdmikdpajijahaaCrcQ
namespace Go.Proofs.Ytdmikdpajijahaa
open Go.RowKit

theorem bytes_block {P : Program} (w : World) (E src dst : TypeId) (d : Nat → Nat) (n : Nat) (hd : ∀ i, d i < 256) (hn : n ≤ maxLen) (hs : P.underlying src = some .string) (ht : P.underlying dst = some (.slice E)) (he : P.underlying E = some (.int .u8)) :
    ∃ cap cur w2 c0, n ≤ cap ∧ cap ≤ maxLen ∧ n ≤ c0 ∧ (convert src dst (.string (strOf (txt d n)))).run P w = .ok (.slice (some ⟨w.heap.size, 0, none⟩) n cap) w2 ∧ Below w.heap.size w w2 ∧ w2.heap[w.heap.size]? = some (.cells cur E (c0, c0 + 1)) ∧ (∀ j, j < n → cur[j]? = some (.int .u8 (d j : Int))) := by
  have h := run_bytes_of_string (P := P) w src dst E (strOf (txt d n)) hs ht he
  have hz : (strOf (txt d n)).size = n := by rw [strOf_size, txt_len]
  rw [hz] at h
  have h1 : (strOf (txt d n)).data = (txt d n).toArray := rfl
  refine ⟨_, _, _, _, grownCap_ge w n 0 E, grownCap_le_maxLen w n 0 E hn, ?_, h, ((Below.refl _ _).drew).alloc (Nat.le_refl _) _, heap_alloc_new w.drew _, fun j hj => ?_⟩
  · unfold bytesRow
    rw [h1, Array.size_append]
    simp [txt_len]
  unfold bytesRow
  rw [h1, Array.getElem?_append_left (by simp [txt_len]; exact hj)]
  simp [txt, hj, Nat.mod_eq_of_lt (hd j)]

theorem frozen_mark {w : World} {g i c : Nat} {cs : Array Value} {t : TypeId} (h : w.heap[g]? = some (.cells cs t (c, c + 1))) (hi : i < c) : w.frozen? ⟨g, i, none⟩ = false := by
  simp [World.frozen?, h]
  omega
theorem fl_set (d : Nat → Nat) (f : Nat) (b : Reg) (k q n x : Nat) (cu : Array Value) (hb : b.getLsbD k = true) (hq : q = f + k) (hx : x = fl d f b k (q / 8)) (_hqn : q / 8 < n) (h : ∀ j, j < n → cu[j]? = some (.int .u8 (fl d f b k j : Int))) :
    ∀ j, j < n → (cu.setIfInBounds (q / 8) (.int .u8 ((x ^^^ 2 ^ (q % 8) : Nat) : Int)))[j]? = some (.int .u8 (fl d f b (k + 1) j : Int)) := by
  intro j hj
  have hlt := (Array.getElem?_eq_some_iff.1 (h j hj)).1
  rw [Array.getElem?_setIfInBounds]
  by_cases e : q / 8 = j
  · rw [if_pos e, if_pos (by omega)]
    subst e
    have : b.getLsbD k = true ∧ (f + k) / 8 = q / 8 := ⟨hb, by rw [hq]⟩
    rw [fl, if_pos this, ← hx, ← hq]
  · rw [if_neg e, h j hj, fl, if_neg (by rw [← hq]; exact fun h => e h.2)]
theorem fl_keep (d : Nat → Nat) (f : Nat) (b : Reg) (k j : Nat) (hb : ¬ b.getLsbD k = true) : fl d f b (k + 1) j = fl d f b k j := by
  rw [fl, if_neg (fun h => hb h.1)]

theorem crcBursts_a (A : Option Addr) (n cap : Nat) (at' b : Int) (w : World) (h5 : 5000 < n) :
    Calls Try.prog 8 #[.slice A n cap, .int .u16 at', .int .u32 b] w fun e w' => e = .returned (.bool true) ∧ Below w.heap.size w w' := by
  go_enter Try.func8, Try.ntmps8
  go_wp2_with fail
  refine (works_any _).mono ?_
  rintro e w4 ⟨rfl, hb4⟩
  go_wp2_with fail
  go_ret
  exact ⟨rfl, hb4⟩
theorem crcBursts_b (A : Option Addr) (n cap : Nat) (at' b : Int) (w : World) (h5 : n < 5) :
    Calls Try.prog 8 #[.slice A n cap, .int .u16 at', .int .u32 b] w fun e w' => e = .returned (.bool true) ∧ Below w.heap.size w w' := by
  go_enter Try.func8, Try.ntmps8
  go_wp2_with fail
  refine (works_any _).mono ?_
  rintro e w4 ⟨rfl, hb4⟩
  go_wp2_with fail
  go_ret
  exact ⟨rfl, hb4⟩
theorem crcBursts_c (A : Option Addr) (n cap : Nat) (at' : Int) (w : World) (h5 : n ≤ 5000) (h4 : 5 ≤ n) :
    Calls Try.prog 8 #[.slice A n cap, .int .u16 at', .int .u32 0] w fun e w' => e = .returned (.bool true) ∧ Below w.heap.size w w' := by
  go_enter Try.func8, Try.ntmps8
  go_wp2_with fail
  refine (works_any _).mono ?_
  rintro e w4 ⟨rfl, hb4⟩
  go_wp2_with fail
  go_ret
  exact ⟨rfl, hb4⟩

theorem u16_of (a : Int) (h : (Lit.int .u16 a).wf = true) : ∃ c : Nat, c < 65536 ∧ a = (c : Int) := by
  have hb : 0 ≤ a ∧ a ≤ 65535 := by simpa [Lit.wf, IntKind.min, IntKind.max, IntKind.signed, IntKind.bits] using h
  exact ⟨a.toNat, by omega, by omega⟩
theorem bit_at (b : Reg) (k : Nat) : bits .and .u32 ((b.toNat : Int) / 2 ^ k) 1 = if b.getLsbD k then 1 else 0 := by
  have h : (b.toNat : Int) / 2 ^ k = ((b >>> k).toNat : Int) := by
    rw [BitVec.toNat_ushiftRight, Nat.shiftRight_eq_div_pow, Int.natCast_ediv, Int.natCast_pow]; rfl
  rw [h, r_lsb, lsb, BitVec.getLsbD_ushiftRight, Nat.add_zero]

set_option maxHeartbeats 1000000 in
theorem crcBursts_d (d : Nat → Nat) (A : Option Addr) (n cap : Nat) (a : Nat) (b : Reg) (w : World) (hd : ∀ i, d i < 256) (hnc : n ≤ cap) (hcm : cap ≤ maxLen) (hr : Holds w w.heap.size A n d) (hA : A = none → cap = 0) (ha : a < 65536) (hb : b ≠ 0#32) (h5 : n ≤ 5000) (h4 : 5 ≤ n) :
    Calls Try.prog 8 #[.slice A n cap, .int .u16 (a : Int), .int .u32 (b.toNat : Int)] w fun e w' => e = .returned (.bool true) ∧ Below w.heap.size w w' := by
  have HD := Lib.hid hd
  have HR := Lib.hid hr
  have HA := Lib.hid hA
  have HNC := Lib.hid hnc
  have HCM := Lib.hid hcm
  have HB := Lib.hid hb
  have hb0 : ((b.toNat : Int) == 0) = false := by
    rw [beq_eq_false_iff_ne]
    intro e
    exact hb (BitVec.eq_of_toNat_eq (by simpa using e))
  have hcv := convert_holds (P := Try.prog) (src := 26) (dst := 9) hd hr hA hnc Try.underlying26 Try.underlying5 Try.underlying9
  obtain ⟨cap2, cur, w2, c0, hn2, hc2, hc0, hcb, hb2, hg2, hcur⟩ := bytes_block (P := Try.prog) w 5 9 26 d n hd (by unfold maxLen; omega) Try.underlying9 Try.underlying26 Try.underlying5
  obtain ⟨s, SS⟩ : ∃ s, Hid (s = strOf (txt d n)) := ⟨_, Lib.hid rfl⟩
  rw [← SS.out] at hcv hcb
  obtain ⟨g, G⟩ : ∃ g, Hid (g = w.heap.size) := ⟨_, Lib.hid rfl⟩
  rw [← G.out] at hcb hg2
  have HCUR := Lib.hid hcur
  have HN2 := Lib.hid hn2
  have HC2 := Lib.hid hc2
  unfold maxLen at hc2
  clear hd hr hA hnc hcm hcur hb
  obtain ⟨f, F⟩ : ∃ f : Nat, Hid (f = a % (8 * n - 31)) := ⟨_, Lib.hid rfl⟩
  have hf : f + 32 ≤ 8 * n := by have := F.out; have := Nat.mod_lt a (show 0 < 8 * n - 31 by omega); omega
  have ef2 : (a : Int) % ((n : Int) * 8 - 31) = (f : Int) := by
    rw [F.out, Int.natCast_emod, show ((8 * n - 31 : Nat) : Int) = (n : Int) * 8 - 31 by omega]
  have ef : (a : Int).tmod ((n : Int) * 8 - 31) = (f : Int) := by
    rw [Int.tmod_eq_emod_of_nonneg (by omega), ef2]
  have HF := Lib.hid hf
  go_enter Try.func8, Try.ntmps8
  go_wp2_with fail
  go_loopw [9] (fun i wr => ∃ k : Nat, k ≤ 32 ∧ i = .int .i64 k ∧ (∃ cu, wr.heap[g]? = some (.cells cu 5 (c0, c0 + 1)) ∧ Hid (∀ j, j < n → cu[j]? = some (.int .u8 (fl d f b k j : Int)))) ∧ Below w.heap.size w wr) (fun i _ => 32 - (intOf i).toNat)
  case atStart => exact ⟨0, by omega, rfl, ⟨cur, hg2, HCUR⟩, hb2⟩
  case round =>
    clear hg2 hb2
    obtain ⟨k, hk, rfl, ⟨cu, hg, HCU⟩, hB⟩ := hrel
    by_cases hlt : k < 32
    · have hba := bit_at b k
      by_cases hbk : b.getLsbD k = true
      · have HBK := Lib.hid hbk
        rw [if_pos hbk] at hba
        obtain ⟨q, hq⟩ : ∃ q, q = f + k := ⟨_, rfl⟩
        have HQ := Lib.hid hq
        have eq1 : (f : Int) + (k : Int) = (q : Int) := by omega
        have hqn : q / 8 < n := by omega
        obtain ⟨j, J⟩ : ∃ j, Hid (j = q / 8) := ⟨_, Lib.hid rfl⟩
        obtain ⟨m, M⟩ : ∃ m, Hid (m = q % 8) := ⟨_, Lib.hid rfl⟩
        rw [← J.out] at hqn
        have hm8 : m < 8 := by have := M.out; omega
        obtain ⟨x, X⟩ : ∃ x, Hid (x = fl d f b k j) := ⟨_, Lib.hid rfl⟩
        have hcell : wr.cell? ⟨g, j, none⟩ = some (.int .u8 (x : Int)) := by
          rw [cell_of_row _ _ _ _ _ _ hg, X.out]; exact HCU.out _ hqn
        have hfr : wr.frozen? ⟨g, j, none⟩ = false := frozen_mark hg (by omega)
        have hx256 : x < 256 := by rw [X.out]; exact fl_lt d HD.out f b k _
        obtain ⟨y, Y⟩ : ∃ y, Hid (y = 2 ^ m) := ⟨_, Lib.hid rfl⟩
        have hy : y < 256 := by
          rw [Y.out]
          exact (show 2 ^ m < 2 ^ 8 from Nat.pow_lt_pow_right (by decide) (by omega))
        have hbx := (byte_xor x y hx256 hy).1
        have ey0 : ((2 : Int) ^ m) = (y : Int) := by
          have e1 : ((2 ^ m : Nat) : Int) = (2 : Int) ^ m := by rw [Int.natCast_pow]; rfl
          rw [← e1, ← Y.out]
        have ey1 : IntKind.u8.wrap ((2 : Int) ^ m) = (y : Int) := by rw [ey0]; rw [IntKind.wrap_u8]; omega
        have t1 : (q : Int).tdiv 8 = (j : Int) := by
          rw [Int.tdiv_eq_ediv_of_nonneg (by omega), J.out]; omega
        have t2 : (q : Int).tmod 8 = (m : Int) := by
          rw [Int.tmod_eq_emod_of_nonneg (by omega), M.out]; omega
        have t3 : IntKind.i64.wrap (j : Int) = (j : Int) := IntWalk.i64_in _ (by omega)
        have t4 : IntKind.i64.wrap (m : Int) = (m : Int) := IntWalk.i64_in _ (by omega)
        have t5 : (j : Int) < (n : Int) := by omega
        obtain ⟨wz, hwz, hgz, hbz⟩ : ∃ wz, wz = wr.setCell ⟨g, j, none⟩ (.int .u8 ((x ^^^ y : Nat) : Int)) ∧ wz.heap[g]? = some (.cells (cu.setIfInBounds j (.int .u8 ((x ^^^ y : Nat) : Int))) 5 (c0, c0 + 1)) ∧ Below w.heap.size w wz :=
          ⟨_, rfl, Go.Joins.block_setCell hg _, hB.setCell (by show w.heap.size ≤ g; have := G.out; omega) _⟩
        have HCU' : Hid (∀ i, i < n → (cu.setIfInBounds j (.int .u8 ((x ^^^ y : Nat) : Int)))[i]? = some (.int .u8 (fl d f b (k + 1) i : Int))) := Lib.hid (by rw [Y.out, M.out, J.out]; exact fl_set d f b k q n x cu HBK.out HQ.out (by rw [X.out, J.out]) (by rw [← J.out]; exact hqn) HCU.out)
        clear hg hB hq hbk
        go_wp2_with fail
        go_still_tail 13, (by kernel_rfl)
        change wpList _ _ _ _ _ wr.drew
        go_wp2_with fail
        rw [← hwz]
        go_roundw
        case rel => exact ⟨k + 1, by omega, by go_num, ⟨_, hgz, HCU'⟩, hbz.drew⟩
        case measure => simp [intOf]; omega
      · rw [if_neg hbk] at hba
        have HCU' : Hid (∀ j, j < n → cu[j]? = some (.int .u8 (fl d f b (k + 1) j : Int))) := Lib.hid (fun j hj => by rw [fl_keep d f b k j hbk]; exact HCU.out j hj)
        clear hbk
        go_wp2_with fail
        go_roundw
        case rel => exact ⟨k + 1, by omega, by go_num, ⟨cu, hg, HCU'⟩, hB⟩
        case measure => simp [intOf]; omega
    · obtain rfl : k = 32 := by omega
      have hL : Holds wr wr.heap.size (some ⟨g, 0, none⟩) n (fl d f b 32) := fun _ => ⟨_, rfl, block_lt hg, fun j hj => by
        have hadd : (⟨g, 0, none⟩ : Addr).add j = ⟨g, j, none⟩ := by unfold Addr.add; split <;> simp_all
        rw [hadd, cell_of_row _ _ _ _ _ _ hg]
        exact HCU.out j hj⟩
      have HS1 := Lib.hid (sum_any (fl d f b 32) (fl_lt d HD.out f b 32) (some ⟨g, 0, none⟩) n cap2 HN2.out HC2.out wr hL)
      have HS2 := Lib.hid (sum_any d HD.out A n cap HNC.out HCM.out wr ((HR.out.below hB).more hB.size))
      have hne := reg_beq _ _ (burst_ne d n f b HB.out (by have := HF.out; omega))
      obtain ⟨s1, S1⟩ : ∃ s, Hid (s = sumR (fl d f b 32) n) := ⟨_, Lib.hid rfl⟩
      obtain ⟨s2, S2⟩ : ∃ s, Hid (s = sumR d n) := ⟨_, Lib.hid rfl⟩
      rw [← S1.out] at HS1 hne
      rw [← S2.out] at HS2 hne
      have hne' : ((s1.toNat : Int) != (s2.toNat : Int)) = true := by rw [bne, hne]; rfl
      clear hL hg
      go_wp2_with fail
      refine HS1.out.mono ?_
      rintro e' w' ⟨rfl, rfl⟩
      go_wp2_with fail
      refine HS2.out.mono ?_
      rintro e' w' ⟨rfl, rfl⟩
      go_wp2_with fail
      refine (works_any _).mono ?_
      rintro e' w5 ⟨rfl, hb5⟩
      go_wp2_with fail
      go_ret
      exact ⟨rfl, below_step hB hb5 hB.size⟩

theorem crcBursts_walk (d : Nat → Nat) (A : Option Addr) (n cap : Nat) (a b : Int) (w : World) (hd : ∀ i, d i < 256) (hnc : n ≤ cap) (hcm : cap ≤ maxLen) (hr : Holds w w.heap.size A n d) (hA : A = none → cap = 0) (ha : (Lit.int .u16 a).wf = true) (hb : (Lit.int .u32 b).wf = true) :
    Calls Try.prog 8 #[.slice A n cap, .int .u16 a, .int .u32 b] w fun e w' => e = .returned (.bool true) ∧ Below w.heap.size w w' := by
  by_cases h5 : 5000 < n
  · exact crcBursts_a A n cap a b w h5
  · by_cases h4 : n < 5
    · exact crcBursts_b A n cap a b w h4
    · obtain ⟨r, rfl⟩ := reg_of b hb
      by_cases h0 : r = 0#32
      · subst h0
        exact crcBursts_c A n cap a w (by omega) (by omega)
      · obtain ⟨c, hc, rfl⟩ := u16_of a ha
        exact crcBursts_d d A n cap c r w hd hnc hcm hr hA hc h0 (by omega) (by omega)
end Go.Proofs.Ytdmikdpajijahaa
