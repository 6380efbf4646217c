/- The walk of the law FieldsKnown. -/
import Derived.Test.YtohojfgceaajfaaFldU
namespace Go.Proofs.Ytohojfgceaajfaa
open Go.RowKit

def nilItems (i : Nat) : It := default
def abD (i : Nat) : Nat := [97, 98].getD i 0
theorem abD_lt (i : Nat) : abD i < 256 := by
  match i with
  | 0 => decide
  | 1 => decide
  | i + 2 => simp [abD]
def xs6 (g : Nat) (i : Nat) : It := [one 0 256, one 1 65537, one 2 4294967301, one 3 18446744073709551615, one 4 0, ⟨4, 0, some ⟨g, 0, none⟩, 2, 2, abD⟩].getD i default
theorem cases6 (p : Nat → Prop) (h0 : p 0) (h1 : p 1) (h2 : p 2) (h3 : p 3) (h4 : p 4) (h5 : p 5) : ∀ j, j < 6 → p j := fun j hj => by
  match j, hj with
  | 0, _ => exact h0
  | 1, _ => exact h1
  | 2, _ => exact h2
  | 3, _ => exact h3
  | 4, _ => exact h4
  | 5, _ => exact h5
theorem items6 (W : World) (g : Nat) (hab : Holds W W.heap.size (some ⟨g, 0, none⟩) 2 abD) : Items (W.alloc (.cells #[.int .u8 0, .int .u64 256, .slice none 0 0, .int .u8 1, .int .u64 65537, .slice none 0 0, .int .u8 2, .int .u64 4294967301, .slice none 0 0, .int .u8 3, .int .u64 18446744073709551615, .slice none 0 0, .int .u8 4, .int .u64 0, .slice none 0 0, .int .u8 4, .int .u64 0, .slice (some ⟨g, 0, none⟩) 2 2] 30)) (W.alloc (.cells #[.int .u8 0, .int .u64 256, .slice none 0 0, .int .u8 1, .int .u64 65537, .slice none 0 0, .int .u8 2, .int .u64 4294967301, .slice none 0 0, .int .u8 3, .int .u64 18446744073709551615, .slice none 0 0, .int .u8 4, .int .u64 0, .slice none 0 0, .int .u8 4, .int .u64 0, .slice (some ⟨g, 0, none⟩) 2 2] 30)).heap.size (some ⟨W.heap.size, 0, none⟩) 6 (xs6 g) :=
  items_of_rows W _ 6 (xs6 g) (cases6 _ (one_ok _ _ _ _ (by decide) (by decide)) (one_ok _ _ _ _ (by decide) (by decide)) (one_ok _ _ _ _ (by decide) (by decide)) (one_ok _ _ _ _ (by decide) (by decide)) (one_ok _ _ _ _ (by decide) (by decide)) ⟨(show 4 < 256 by decide), (show 0 < 18446744073709551616 by decide), abD_lt, Nat.le_refl _, (show 2 ≤ maxLen by decide), hab, fun h => by cases h⟩) (cases6 _ (cases3 _ rfl rfl rfl) (cases3 _ rfl rfl rfl) (cases3 _ rfl rfl rfl) (cases3 _ rfl rfl rfl) (cases3 _ rfl rfl rfl) (cases3 _ rfl rfl rfl))

theorem reads3 (W : World) (gb k j : Nat) (hj : j < 5) (hk : k ≤ 9) (hg : gb + 1 ≤ W.heap.size) (hH : Holds W (gb + 1) (some ⟨gb, 0, none⟩) k oneTo) :
    Calls Try.prog 4 #[.slice (some ⟨gb, 0, none⟩) k 9, .slice (some ⟨W.heap.size, 0, none⟩) 3 3] (W.alloc (.cells #[.int .u8 (j : Int), .int .u64 3, .slice none 0 0, .int .u8 0, .int .u64 0, .slice none 0 0, .int .u8 (j : Int), .int .u64 0, .slice none 0 0] 30)) fun e w' => e = .returned (.bool true) ∧ Below W.heap.size W w' := by
  have hba := below_alloc1 W (.cells #[.int .u8 (j : Int), .int .u64 3, .slice none 0 0, .int .u8 0, .int .u64 0, .slice none 0 0, .int .u8 (j : Int), .int .u64 0, .slice none 0 0] 30)
  refine (fieldsReads_walk oneTo (some ⟨gb, 0, none⟩) k 9 (xs3 j) (some ⟨W.heap.size, 0, none⟩) 3 3 _ oneTo_lt hk (by decide) ((hH.below (hba.mono hg)).more (by simp; omega)) (fun h => by cases h) (Nat.le_refl _) (by decide) (items3 W j hj)).mono fun e w' h => ⟨h.1, hba.trans (h.2.mono (by simp))⟩
theorem reads4 (W : World) (gb k j : Nat) (hj : j < 5) (hk : k ≤ 9) (hg : gb + 1 ≤ W.heap.size) (hH : Holds W (gb + 1) (some ⟨gb, 0, none⟩) k oneTo) :
    Calls Try.prog 4 #[.slice (some ⟨gb, 0, none⟩) k 9, .slice (some ⟨W.heap.size, 0, none⟩) 4 4] (W.alloc (.cells #[.int .u8 0, .int .u64 0, .slice none 0 0, .int .u8 (j : Int), .int .u64 (k : Int), .slice none 0 0, .int .u8 (j : Int), .int .u64 18446744073709551615, .slice none 0 0, .int .u8 0, .int .u64 0, .slice none 0 0] 30)) fun e w' => e = .returned (.bool true) ∧ Below W.heap.size W w' := by
  have hba := below_alloc1 W (.cells #[.int .u8 0, .int .u64 0, .slice none 0 0, .int .u8 (j : Int), .int .u64 (k : Int), .slice none 0 0, .int .u8 (j : Int), .int .u64 18446744073709551615, .slice none 0 0, .int .u8 0, .int .u64 0, .slice none 0 0] 30)
  refine (fieldsReads_walk oneTo (some ⟨gb, 0, none⟩) k 9 (xs4 j k) (some ⟨W.heap.size, 0, none⟩) 4 4 _ oneTo_lt hk (by decide) ((hH.below (hba.mono hg)).more (by simp; omega)) (fun h => by cases h) (Nat.le_refl _) (by decide) (items4 W j k hj (by omega))).mono fun e w' h => ⟨h.1, hba.trans (h.2.mono (by simp))⟩
theorem reads2 (W : World) (gb k : Nat) (hk : k ≤ 9) (hg : gb + 1 ≤ W.heap.size) (hH : Holds W (gb + 1) (some ⟨gb, 0, none⟩) k oneTo) :
    Calls Try.prog 4 #[.slice (some ⟨gb, 0, none⟩) k 9, .slice (some ⟨W.heap.size, 0, none⟩) 2 2] (W.alloc (.cells #[.int .u8 4, .int .u64 9223372036854775807, .slice none 0 0, .int .u8 4, .int .u64 0, .slice none 0 0] 30)) fun e w' => e = .returned (.bool true) ∧ Below W.heap.size W w' := by
  have hba := below_alloc1 W (.cells #[.int .u8 4, .int .u64 9223372036854775807, .slice none 0 0, .int .u8 4, .int .u64 0, .slice none 0 0] 30)
  refine (fieldsReads_walk oneTo (some ⟨gb, 0, none⟩) k 9 (xs2) (some ⟨W.heap.size, 0, none⟩) 2 2 _ oneTo_lt hk (by decide) ((hH.below (hba.mono hg)).more (by simp; omega)) (fun h => by cases h) (Nat.le_refl _) (by decide) (items2 W)).mono fun e w' h => ⟨h.1, hba.trans (h.2.mono (by simp))⟩

set_option maxRecDepth 100000 in
set_option maxHeartbeats 2000000 in
theorem fieldsKnown_walk (w : World) :
    Calls Try.prog 7 #[] w fun e w' => e = .returned (.bool true) ∧ Below w.heap.size w w' := by
  have HWK := Lib.hid works_any
  go_enter Try.func7, Try.ntmps7
  go_wp2_with fail
  refine (wByte_nil _ _).mono ?_
  rintro e w' ⟨rfl, rfl⟩
  go_wp2_with fail
  refine (wShort_nil _ _).mono ?_
  rintro e w' ⟨rfl, rfl⟩
  go_wp2_with fail
  refine (wWord_nil _ _).mono ?_
  rintro e w' ⟨rfl, rfl⟩
  go_wp2_with fail
  refine (wLong_nil _ _).mono ?_
  rintro e w' ⟨rfl, rfl⟩
  go_wp2_with fail
  refine (wRaw_nil _ _).mono ?_
  rintro e w' ⟨rfl, rfl⟩
  go_wp2_with fail
  refine (out_nil _).mono ?_
  rintro e w' ⟨rfl, rfl⟩
  go_wp2_with fail
  refine (bad_nil _).mono ?_
  rintro e w' ⟨rfl, rfl⟩
  go_wp2_with fail
  refine (rByte_nil _).mono ?_
  rintro e w' ⟨rfl, rfl⟩
  go_wp2_with fail
  refine (rShort_nil _).mono ?_
  rintro e w' ⟨rfl, rfl⟩
  go_wp2_with fail
  refine (rWord_nil _).mono ?_
  rintro e w' ⟨rfl, rfl⟩
  go_wp2_with fail
  refine (rLong_nil _).mono ?_
  rintro e w' ⟨rfl, rfl⟩
  go_wp2_with fail
  refine (raw_nil _ _).mono ?_
  rintro e w' ⟨rfl, rfl⟩
  go_wp2_with fail
  refine (left_nil _).mono ?_
  rintro e w' ⟨rfl, rfl⟩
  go_wp2_with fail
  have hb0 := below_alloc1 w (.cells #[.int .u8 1] 5)
  generalize (w.alloc (.cells #[.int .u8 1] 5)) = w0 at *
  go_loopw [4] (fun i wr => ∃ k : Nat, k ≤ 10 ∧ i = .int .i64 k ∧ Below w.heap.size w wr) (fun i _ => 10 - (intOf i).toNat)
  case atStart => exact ⟨0, by omega, rfl, hb0⟩
  case round =>
    clear hb0
    obtain ⟨k, hk, rfl, hb⟩ := hrel
    by_cases hlt : k < 10
    · have hH : Holds (wr.alloc (.cells (digA oneTo 9) 5)) (wr.heap.size + 1) (some ⟨wr.heap.size, 0, none⟩) k oneTo := fun h0 => by
        obtain ⟨a, ea, hl, hc⟩ := holds_new wr 5 oneTo 9 (0, 0) (by omega)
        cases ea
        exact ⟨_, rfl, Nat.lt_succ_self _, fun j hj => hc j (by omega)⟩
      have hb1 := hb.alloc hb.size (.cells (digA oneTo 9) 5)
      have hs1 : wr.heap.size + 1 ≤ (wr.alloc (.cells (digA oneTo 9) 5)).heap.size := by simp
      have HK := Lib.hid hlt
      have hlt9 : k ≤ 9 := by omega
      have hd10 : decide ((k : Int) < 10) = true := decide_eq_true (by omega)
      go_upto_region 13 with (fail)
      rw [show (wr.alloc (.cells #[.int .u8 1, .int .u8 2, .int .u8 3, .int .u8 4, .int .u8 5, .int .u8 6, .int .u8 7, .int .u8 8, .int .u8 9] 5)) = wr.alloc (.cells (digA oneTo 9) 5) from rfl]
      obtain ⟨gb, GB⟩ : ∃ g, Hid (g = wr.heap.size) := ⟨_, Lib.hid rfl⟩
      rw [← GB.out] at hH hs1 ⊢
      have HH := Lib.hid hH
      generalize (wr.alloc (.cells (digA oneTo 9) 5)) = w1 at *
      clear hH hb
      have HS1 := Lib.hid hs1
      clear hs1 HK
      go_wp2_with fail
      go_loopw [6] (fun i wr => ∃ j : Nat, j ≤ 5 ∧ i = .int .u8 j ∧ Hid (Holds wr (gb + 1) (some ⟨gb, 0, none⟩) k oneTo) ∧ Hid (gb + 1 ≤ wr.heap.size) ∧ Below w.heap.size w wr) (fun i _ => 5 - (intOf i).toNat)
      case atStart => exact ⟨0, by omega, rfl, HH, HS1, hb1⟩
      case round =>
        clear HH HS1 hb1
        obtain ⟨j, hj, rfl, HH, HS, hb⟩ := hrel
        by_cases hlj : j < 5
        · have HC1 := Lib.hid (reads3 wr gb k j hlj hlt9 HS.out HH.out)
          have ek : (k : Int) % 18446744073709551616 = (k : Int) := by omega
          have ek2 : IntKind.u64.wrap (k : Int) = (k : Int) := by rw [IntKind.wrap_u64]; omega
          have HJ := Lib.hid hlj
          go_wp2_with fail
          refine HC1.out.mono ?_
          rintro e w2 ⟨rfl, hb2⟩
          have HH2 := Lib.hid (HH.out.below (hb2.mono HS.out))
          have HS2 := Lib.hid (Nat.le_trans HS.out hb2.size)
          have hB2 := below_step hb hb2 hb.size
          have HC2 := Lib.hid (reads4 w2 gb k j HJ.out hlt9 HS2.out HH2.out)
          clear HC1 hb2 hb HH HS
          go_wp2_with fail
          refine HC2.out.mono ?_
          rintro e w3 ⟨rfl, hb3⟩
          have HH3 := Lib.hid (HH2.out.below (hb3.mono HS2.out))
          have HS3 := Lib.hid (Nat.le_trans HS2.out hb3.size)
          have hB3 := below_step hB2 hb3 hB2.size
          have HC3 := Lib.hid (reads2 w3 gb k hlt9 HS3.out HH3.out)
          clear HC2 hb3 hB2 HH2 HS2
          go_wp2_with fail
          refine HC3.out.mono ?_
          rintro e w4 ⟨rfl, hb4⟩
          have HH4 := Lib.hid (HH3.out.below (hb4.mono HS3.out))
          have HS4 := Lib.hid (Nat.le_trans HS3.out hb4.size)
          have hB4 := below_step hB3 hb4 hB3.size
          have hj5 := HJ.out
          clear HC3 hb4 hB3 HH3 HS3
          go_wp2_with fail
          go_roundw
          case rel => exact ⟨j + 1, by omega, by go_num, HH4, HS4, hB4⟩
          case measure => simp [intOf]; omega
        · clear HH HS
          go_wp2_with fail
          all_goals
            go_roundw
            case rel => exact ⟨k + 1, by omega, by go_num, hb⟩
            case measure => simp [intOf]; omega
    · have kc := fun (w : World) (C : Array Value) (n c : Nat) => Lib.run_convert_bytes_const (P := Try.prog) w 25 5 C n c Try.underlying25 Try.underlying5
      have hab := holds_new wr 5 abD 2 (2, 3)
      have hb1 := hb.alloc hb.size (.cells (digA abD 2) 5 (2, 3))
      have hI6 := items6 _ wr.heap.size hab
      have HP6 := Lib.hid (fieldsPuts_walk (xs6 wr.heap.size) (some ⟨(wr.alloc (.cells (digA abD 2) 5 (2, 3))).heap.size, 0, none⟩) 6 6 _ (Nat.le_refl _) (by decide) hI6)
      rw [show (wr.alloc (.cells (digA abD 2) 5 (2, 3))).heap.size = wr.heap.size + 1 by simp, show digA abD 2 = #[.int .u8 97, .int .u8 98] from rfl] at HP6
      have hb2 := hb1.alloc hb1.size (.cells #[.int .u8 0, .int .u64 256, .slice none 0 0, .int .u8 1, .int .u64 65537, .slice none 0 0, .int .u8 2, .int .u64 4294967301, .slice none 0 0, .int .u8 3, .int .u64 18446744073709551615, .slice none 0 0, .int .u8 4, .int .u64 0, .slice none 0 0, .int .u8 4, .int .u64 0, .slice (some ⟨wr.heap.size, 0, none⟩) 2 2] 30)
      clear hab hI6
      go_wp2_with fail
      refine HP6.out.mono ?_
      rintro e w5 ⟨rfl, hb5⟩
      have hB5 := below_step hb2 hb5 hb2.size
      have HBK := Lib.hid (fieldsBack_walk nilItems none 0 0 (fun _ => 0) none 0 0 w5 (Nat.le_refl _) (by decide) (fun h => absurd h (by omega)) (fun _ => by decide) (Nat.le_refl _) (by decide) (fun h => absurd h (by omega)) (fun _ => rfl))
      clear HP6 hb5 hb2 hb1
      go_wp2_with fail
      refine HBK.out.mono ?_
      rintro e w6 ⟨rfl, hb6⟩
      have hB6 := below_step hB5 hb6 hB5.size
      have HSD := Lib.hid (fieldsSides_walk 255 256 1 w6 (by decide) (by decide) (by decide))
      clear HBK hb6 hB5
      go_wp2_with fail
      refine HSD.out.mono ?_
      rintro e w7 ⟨rfl, hb7⟩
      have hB7 := below_step hB6 hb7 hB6.size
      clear HSD hb7 hB6
      go_wp2_with fail
      refine (HWK.out _).mono ?_
      rintro e w8 ⟨rfl, hb8⟩
      go_wp2_with fail
      go_ret
      exact ⟨rfl, below_step hB7 hb8 hB7.size⟩
end Go.Proofs.Ytohojfgceaajfaa
