/- The walk of the law ShaKnown. -/
import Derived.Test.YtnenjljcopbdeaaDoorShaAB
namespace Go.Proofs.YtnenjljcopbdeaaDoor
open Go.RowKit Go.BigFrame

theorem own_slice {w : World} {base n : Nat} {e : TypeId} {v : Value} {d : Nat → Nat} (h : w.ownsRow base e 1 v n (cells d n)) :
    ∃ A cap, v = .slice A n cap ∧ n ≤ cap ∧ cap ≤ maxLen ∧ Holds w w.heap.size A n d ∧ (A = none → cap = 0) := by
  by_cases hn : 0 < n
  · obtain ⟨g, cap, rfl, _, _, h1, h2, h3⟩ := own_holds h hn
    exact ⟨_, cap, rfl, h1, h2, h3, fun h => by cases h⟩
  · obtain rfl : n = 0 := by omega
    obtain ⟨hl, ⟨rfl, h0⟩ | ⟨g, cap, cur, rfl, hg, hgg, h1, h2, h3, h4⟩⟩ := h
    · exact ⟨none, 0, rfl, Nat.le_refl _, by decide, fun h => absurd h (by omega), fun _ => rfl⟩
    · exact ⟨_, cap, rfl, h1, h2, fun h => absurd h (by omega), fun h => by cases h⟩
def bK (j : Nat) : Nat := j * 7 % 256
theorem bK_lt (j : Nat) : bK j < 256 := Nat.mod_lt _ (by decide)
theorem wf64 (k : Nat) (h : k < 18446744073709551616) : (Lit.int .u64 (k : Int)).wf = true := by
  simp [Lit.wf, IntKind.min, IntKind.max, IntKind.signed, IntKind.bits]; omega
def emptyH : ByteArray := ⟨#[101, 51, 98, 48, 99, 52, 52, 50, 57, 56, 102, 99, 49, 99, 49, 52, 57, 97, 102, 98, 102, 52, 99, 56, 57, 57, 54, 102, 98, 57, 50, 52, 50, 55, 97, 101, 52, 49, 101, 52, 54, 52, 57, 98, 57, 51, 52, 99, 97, 52, 57, 53, 57, 57, 49, 98, 55, 56, 53, 50, 98, 56, 53, 53]⟩
set_option maxRecDepth 100000 in
theorem empty_hex : hexS (sumB (fun _ => 0) 0) = emptyH := by decide +kernel

theorem pad56 (w : World) : Calls Tryd.prog 11 #[.int .u64 56] w fun e w' => e = .returned (.slice (some ⟨w.heap.size, 0, none⟩) 72 72) ∧ Below w.heap.size w w' :=
  (pad_any 56 w).mono fun _ _ ⟨a, b, _⟩ => ⟨a, b⟩
theorem pad55 (w : World) : Calls Tryd.prog 11 #[.int .u64 55] w fun e w' => e = .returned (.slice (some ⟨w.heap.size, 0, none⟩) 9 9) ∧ Below w.heap.size w w' :=
  (pad_any 55 w).mono fun _ _ ⟨a, b, _⟩ => ⟨a, b⟩
def d1 (i : Nat) : Nat := if i = 0 then 1 else 0
theorem d1_lt (i : Nat) : d1 i < 256 := by unfold d1; split <;> decide
def badRow (s1 s2 s3 s4 s5 s6 s7 : ByteArray) : Array Value := #[.string ⟨#[]⟩, .string s1, .string s2, .string s3, .string s4, .string s5, .string s6, .string s7]
theorem bad_size : (⟨#[]⟩ : ByteArray).size ≤ 65 ∧ (emptyH.extract 1 64).size ≤ 65 ∧ (emptyH ++ ⟨#[48]⟩).size ≤ 65 ∧ (⟨#[71]⟩ ++ emptyH.extract 1 64).size ≤ 65 ∧ (emptyH.extract 0 63 ++ ⟨#[47]⟩).size ≤ 65 ∧ (emptyH.extract 0 63 ++ ⟨#[103]⟩).size ≤ 65 ∧ (⟨#[69]⟩ ++ emptyH.extract 1 64).size ≤ 65 ∧ (emptyH.extract 0 10 ++ ⟨#[32]⟩ ++ emptyH.extract 11 64).size ≤ 65 := by decide +kernel
theorem bad_ok : okR ⟨#[]⟩ = false ∧ okR (emptyH.extract 1 64) = false ∧ okR (emptyH ++ ⟨#[48]⟩) = false ∧ okR (⟨#[71]⟩ ++ emptyH.extract 1 64) = false ∧ okR (emptyH.extract 0 63 ++ ⟨#[47]⟩) = false ∧ okR (emptyH.extract 0 63 ++ ⟨#[103]⟩) = false ∧ okR (⟨#[69]⟩ ++ emptyH.extract 1 64) = false ∧ okR (emptyH.extract 0 10 ++ ⟨#[32]⟩ ++ emptyH.extract 11 64) = false := by decide +kernel
theorem bad_all (h s1 s2 s3 s4 s5 s6 s7 : ByteArray) (H : h = emptyH) (S1 : s1 = h.extract 1 64) (S2 : s2 = h ++ ⟨#[48]⟩) (S3 : s3 = ⟨#[71]⟩ ++ h.extract 1 64) (S4 : s4 = h.extract 0 63 ++ ⟨#[47]⟩) (S5 : s5 = h.extract 0 63 ++ ⟨#[103]⟩) (S6 : s6 = ⟨#[69]⟩ ++ h.extract 1 64) (S7 : s7 = h.extract 0 10 ++ ⟨#[32]⟩ ++ h.extract 11 64) :
    ∀ k, k < 8 → ∃ s, (badRow s1 s2 s3 s4 s5 s6 s7)[k]? = some (.string s) ∧ okR s = false ∧ s.size ≤ 65 := by
  subst H
  obtain ⟨a0, a1, a2, a3, a4, a5, a6, a7⟩ := bad_ok
  obtain ⟨z0, z1, z2, z3, z4, z5, z6, z7⟩ := bad_size
  rw [← S7, ← S6, ← S5, ← S4, ← S3, ← S2, ← S1] at *
  intro k hk
  match k, hk with
  | 0, _ => exact ⟨_, rfl, a0, z0⟩
  | 1, _ => exact ⟨_, rfl, a1, z1⟩
  | 2, _ => exact ⟨_, rfl, a2, z2⟩
  | 3, _ => exact ⟨_, rfl, a3, z3⟩
  | 4, _ => exact ⟨_, rfl, a4, z4⟩
  | 5, _ => exact ⟨_, rfl, a5, z5⟩
  | 6, _ => exact ⟨_, rfl, a6, z6⟩
  | 7, _ => exact ⟨_, rfl, a7, z7⟩

set_option maxRecDepth 100000 in
set_option maxHeartbeats 2000000 in
theorem shaKnown_walk (w : World) (ht : Tabs w) :
    Calls Tryd.prog 9 #[] w fun e w' => e = .returned (.bool true) ∧ Below w.heap.size w w' := by
  obtain ⟨i0, hi, hz0, hz1, hz2⟩ := info_parts infoU8
  have HT := Lib.hid ht
  clear ht
  go_enter Tryd.func9, Tryd.ntmps9
  go_wp2_with fail
  go_loopw [1, 2] (fun v i wr => ∃ k : Nat, k ≤ 200 ∧ i = .int .i64 k ∧ wr.ownsRow w.heap.size 5 1 v k (cells bK k) ∧ Below w.heap.size w wr) (fun _ i _ => 200 - (intOf i).toNat)
  case atStart => exact ⟨0, by omega, rfl, World.ownsRow_nil _ _ _ _, Below.refl _ _⟩
  case round =>
    obtain ⟨k, hk, rfl, hown, hB⟩ := hrel
    by_cases hlt : k < 200
    · obtain ⟨A, cap, rfl, hkc, hcm, hr, hA⟩ := own_slice hown
      have HO := Lib.hid hown
      have HR := Lib.hid hr
      have HA := Lib.hid hA
      have HKC := Lib.hid hkc
      have HCM := Lib.hid hcm
      clear hown hr hA hkc hcm
      go_wp2_with fail
      refine (shaSums_walk bK A k cap wr (HT.out.below hB) bK_lt HKC.out HCM.out HR.out HA.out).mono ?_
      rintro e w2 ⟨rfl, hb2⟩
      have hB2 := below_step hB hb2 hB.size
      go_wp2_with fail
      refine (shaChains_walk bK A k cap w2 (HT.out.below hB2) bK_lt HKC.out HCM.out ((HR.out.below hb2).more hb2.size) HA.out).mono ?_
      rintro e w3 ⟨rfl, hb3⟩
      have hb23 := below_step hb2 hb3 hb2.size
      have hB3 := below_step hB hb23 hB.size
      go_wp2_with fail
      refine (shaPads_walk (k : Int) w3 (HT.out.below hB3) (wf64 k (by omega))).mono ?_
      rintro e w4 ⟨rfl, hb4⟩
      have hb24 := below_step hb23 hb4 hb23.size
      have hB4 := below_step hB hb24 hB.size
      have HO4 := Lib.hid (own_below HO.out hb24 (Nat.le_refl _))
      clear hb2 hb3 hb4 hB2 hB3 hb23 hb24 hB HO
      obtain ⟨x, X⟩ : ∃ x, Hid (x = bK k) := ⟨_, Lib.hid rfl⟩
      have e7 : (k : Int) * 7 % 256 = (x : Int) := by rw [X.out, bK]; omega
      have hzz : w.heap.size ≤ w4.heap.size := hB4.size
      go_wp2_with (at_builtin; refine wpList_append_own _ rfl _ _ 23 rfl w.heap.size 5 i0 (.int .u8 0) 1 1 Tryd.underlying23 hi hz0 hz1 hz2 rfl (by decide) _ _ _ rfl (HO4.out.alloc _) ⟨w4.heap.size, 0, none⟩ 1 1 [.int .u8 (x : Int)] rfl rfl (one_cell (by simp)) (u8_one _) ?c3 ?c4 ?c5 ?_)
      case c3 => unfold maxLen; omega
      case c4 => omega
      case c5 => simp; omega
      intro v' w5 hown' hgrow _
      have hown2 : w5.ownsRow w.heap.size 5 1 v' (k + 1) (cells bK (k + 1)) := by
        rw [cells_succ, ← X.out]; exact hown'
      have hB5 := (hB4.alloc hB4.size _).grown hgrow (by simp; omega) (fun g hg => (HO4.out.lt g hg).1)
      clear hB4 hgrow hown' HO4
      go_wp2_with fail
      go_roundw
      case rel => exact ⟨k + 1, by omega, by go_num, hown2, hB5⟩
      case measure => simp [intOf]; omega
    · obtain rfl : k = 200 := by omega
      clear hown hlt hk
      obtain ⟨r, R⟩ : ∃ r, Hid (r = sumB (fun _ => 0) 0) := ⟨_, Lib.hid rfl⟩
      obtain ⟨h, H⟩ : ∃ h, Hid (h = hexS r) := ⟨_, Lib.hid rfl⟩
      have HS1 := Lib.hid (fun w ht => sum_any (fun _ => 0) (fun _ => by decide) none 0 0 (Nat.le_refl _) (by decide) w ht (fun h => absurd h (by omega)) (fun _ => rfl))
      rw [← R.out] at HS1
      have HS2 := Lib.hid (hex_any r (fun i => by rw [R.out]; exact Nat.mod_lt _ (by decide)))
      rw [← H.out] at HS2
      have HE : Hid (h = emptyH) := Lib.hid (by rw [H.out, R.out]; exact empty_hex)
      clear H R
      go_wp2_with fail
      refine (HS1.out _ (HT.out.below hB)).mono ?_
      rintro e w2 ⟨rfl, hb2⟩
      have hB2 := below_step hB hb2 hB.size
      go_wp2_with fail
      refine (HS2.out _).mono ?_
      rintro e w3 ⟨rfl, hb3⟩
      have hB3 := below_step hB2 hb3 hB2.size
      clear hB hB2 hb2 hb3 HS1 HS2
      have hz : h.size = 64 := by rw [HE.out]; rfl
      go_wp2_with fail
      refine wp_region_still_tail 22 (by kernel_rfl) (by kernel_rfl) ?_
      simp only [List.take_succ_cons, List.take_zero, List.drop_succ_cons, List.drop_zero]
      repeat still_step
      refine wpStill_nil ?_
      change wpList _ _ _ _ _ w3.drew
      obtain ⟨s7, S7⟩ : ∃ s, Hid (s = h.extract 0 10 ++ ⟨#[32]⟩ ++ h.extract 11 64) := ⟨_, Lib.hid rfl⟩
      obtain ⟨s6, S6⟩ : ∃ s, Hid (s = ⟨#[69]⟩ ++ h.extract 1 64) := ⟨_, Lib.hid rfl⟩
      obtain ⟨s5, S5⟩ : ∃ s, Hid (s = h.extract 0 63 ++ ⟨#[103]⟩) := ⟨_, Lib.hid rfl⟩
      obtain ⟨s4, S4⟩ : ∃ s, Hid (s = h.extract 0 63 ++ ⟨#[47]⟩) := ⟨_, Lib.hid rfl⟩
      obtain ⟨s3, S3⟩ : ∃ s, Hid (s = ⟨#[71]⟩ ++ h.extract 1 64) := ⟨_, Lib.hid rfl⟩
      obtain ⟨s2, S2⟩ : ∃ s, Hid (s = h ++ ⟨#[48]⟩) := ⟨_, Lib.hid rfl⟩
      obtain ⟨s1, S1⟩ : ∃ s, Hid (s = h.extract 1 64) := ⟨_, Lib.hid rfl⟩
      rw [← S7.out, ← S6.out, ← S5.out, ← S4.out, ← S3.out, ← S2.out, ← S1.out]
      have HBAD := Lib.hid (bad_all h s1 s2 s3 s4 s5 s6 s7 HE.out S1.out S2.out S3.out S4.out S5.out S6.out S7.out)
      clear S1 S2 S3 S4 S5 S6 S7
      go_wp2_with fail
      obtain ⟨w4, hw4, hgS, hB4⟩ : ∃ w4, w4 = (w3.alloc (.cells #[Value.string ⟨#[]⟩, .string s1, .string s2, .string s3, .string s4, .string s5, .string s6, .string s7] 9)).drew ∧ w4.heap[w3.heap.size]? = some (.cells (badRow s1 s2 s3 s4 s5 s6 s7) 9) ∧ Below w.heap.size w w4 := ⟨_, rfl, heap_alloc_new w3 _, (hB3.alloc hB3.size _).drew⟩
      rw [← hw4]
      obtain ⟨gS, GS⟩ : ∃ g, Hid (g = w3.heap.size) := ⟨_, Lib.hid rfl⟩
      rw [← GS.out] at hgS ⊢
      clear hw4 hB3 GS
      go_loopw [5] (fun i wr => ∃ k : Nat, k ≤ 8 ∧ i = .int .i64 k ∧ wr.heap[gS]? = some (.cells (badRow s1 s2 s3 s4 s5 s6 s7) 9) ∧ Below w.heap.size w wr) (fun i _ => 8 - (intOf i).toNat)
      case atStart => exact ⟨0, by omega, rfl, hgS, hB4⟩
      case round =>
        clear hgS hB4
        obtain ⟨k, hk, rfl, hgS, hB⟩ := hrel
        by_cases hlt : k < 8
        · obtain ⟨s, hs, hok, hsz⟩ := HBAD.out k hlt
          have HOK := Lib.hid hok
          have hc0 : wr.cell? ⟨gS, k, none⟩ = some (.string s) := by rw [cell_of_row _ _ _ _ _ _ hgS]; exact hs
          have i8 : (k : Int) < 8 := by omega
          clear hok
          go_wp2_with fail
          refine (read_is false s _ (by unfold maxLen; omega) HOK.out).mono ?_
          rintro e w5 ⟨rfl, hb5⟩
          have hgS5 := (hb5.block gS (block_lt hgS)).trans hgS
          have hB5 := below_step hB hb5 hB.size
          clear hgS hB hb5 hc0
          go_upto_region 14 with (refine wpList_store_row rfl 33 _ _ rfl w5.heap.size (digA (rdD s) 32) rfl rfl 33 _ (heap_alloc_new _ _) (by rw [digA_size]; exact info32) (by rw [digA_size]; rfl) (digA_ok _ _) ?_)
          rw [zeros32]
          obtain ⟨w6, hw6, hgE, hold6, hB6, hz6⟩ := row_put w.heap.size w w5 (digA (fun _ => 0) 32) (digA (rdD s) 32) 33 hB5 hB5.size
          rw [← hw6]
          have hgS6 := (hold6 gS (block_lt hgS5)).trans hgS5
          have hc6 : w6.cell? ⟨gS, k, none⟩ = some (.string s) := by rw [cell_of_row _ _ _ _ _ _ hgS6]; exact hs
          clear hw6 hold6 hB5 hgS5 hgE hz6 hs
          go_wp2_with fail
          refine (shaTexts_walk d1 s w6 (HT.out.below hB6) d1_lt (by unfold maxLen; omega)).mono ?_
          rintro e w7 ⟨rfl, hb7⟩
          have hgS7 := (hb7.block gS (block_lt hgS6)).trans hgS6
          have hB7 := below_step hB6 hb7 hB6.size
          clear hc6 hgS6 hB6 hb7
          go_wp2_with fail
          go_roundw
          case rel => exact ⟨k + 1, by omega, by go_num, hgS7, hB7⟩
          case measure => simp [intOf]; omega
        · obtain rfl : k = 8 := by omega
          clear hgS HBAD
          have hE : h = ⟨#[101, 51, 98, 48, 99, 52, 52, 50, 57, 56, 102, 99, 49, 99, 49, 52, 57, 97, 102, 98, 102, 52, 99, 56, 57, 57, 54, 102, 98, 57, 50, 52, 50, 55, 97, 101, 52, 49, 101, 52, 54, 52, 57, 98, 57, 51, 52, 99, 97, 52, 57, 53, 57, 57, 49, 98, 55, 56, 53, 50, 98, 56, 53, 53]⟩ := HE.out
          rw [hE]
          clear hE HE hz
          go_wp2_with fail
          refine (pad56 wr).mono ?_
          rintro e w5 ⟨rfl, hb5⟩
          have hB5 := below_step hB hb5 hB.size
          clear hB hb5
          go_wp2_with fail
          refine (pad55 w5).mono ?_
          rintro e w6 ⟨rfl, hb6⟩
          have hB6 := below_step hB5 hb6 hB5.size
          clear hB5 hb6
          go_wp2_with fail
          refine (shaPads_walk 18446744073709551615 w6 (HT.out.below hB6) (by decide)).mono ?_
          rintro e w7 ⟨rfl, hb7⟩
          have hB7 := below_step hB6 hb7 hB6.size
          clear hB6 hb7
          go_wp2_with fail
          refine (shaPads_walk 2305843009213693952 w7 (HT.out.below hB7) (by decide)).mono ?_
          rintro e w8 ⟨rfl, hb8⟩
          have hB8 := below_step hB7 hb8 hB7.size
          clear hB7 hb8
          go_wp2_with fail
          refine (shaTexts_walk (fun _ => 0) _ w8 (HT.out.below hB8) (fun _ => by decide) (by decide)).mono ?_
          rintro e w9 ⟨rfl, hb9⟩
          have hB9 := below_step hB8 hb9 hB8.size
          clear hB8 hb9
          go_wp2_with fail
          refine (shaBlocks_walk (fun _ => 0) (fun _ => 0) w9 (HT.out.below hB9) (fun _ => by decide)).mono ?_
          rintro e wa ⟨rfl, hba⟩
          have hBa := below_step hB9 hba hB9.size
          clear hB9 hba
          go_wp2_with fail
          refine (works_any _ (HT.out.below hBa)).mono ?_
          rintro e wb ⟨rfl, hbb⟩
          go_wp2_with fail
          go_ret
          exact ⟨rfl, below_step hBa hbb hBa.size⟩
end Go.Proofs.YtnenjljcopbdeaaDoor
