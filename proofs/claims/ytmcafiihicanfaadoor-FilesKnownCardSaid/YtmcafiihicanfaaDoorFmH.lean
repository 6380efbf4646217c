/- files: a name: strings.ContainsAny of a slash or a zero byte, of any bytes. -/
import Derived.Test.YtmcafiihicanfaaDoorFilP
import Derived.Test.YtmcafiihicanfaaDoorShelf
import Derived.Test.YtmcafiihicanfaaDoorFmA
import Derived.Laws.RangeAny
import Derived.Laws.Runes
import Derived.Scope
import Derived.WalkKit
import Derived.Lib.OthersKept
import Derived.Lib.TrimU
set_option linter.unusedVariables false
set_option linter.unusedSimpArgs false
namespace Go.Proofs.YtmcafiihicanfaaDoor
open Go Go.RowKit Go.BigFrame
open Fil (Es Nd Sp)

def chB : ByteArray := ⟨#[47, 0]⟩
set_option maxRecDepth 1000000 in
set_option maxRecDepth 100000 in
set_option maxHeartbeats 4000000 in
/-- A rune that is no ASCII: neither a slash nor a zero byte. -/
theorem slash_rune (r : Int) (h0 : 128 ≤ r) (h1 : r ≤ 2147483647) (w : World) :
    Calls Tryd.prog 55 #[.string chB, .int .i32 r] w fun e W => e = .returned (.int .i64 (-1)) ∧ Below w.heap.size w W := by
  have hd1 : decide ((0 : Int) ≤ r) = true := decide_eq_true (by omega)
  have hd2 : decide (r < 128) = false := decide_eq_false (by omega)
  have hz : (chB.size : Int) = 2 := rfl
  go_enter Tryd.func55, Tryd.ntmps55
  rcases Decidable.em (r = 65533) with h3 | h3
  · subst h3
    unfold chB
    go_wp2
    go_loopg [5, 6] 2 (fun g _ _ wx => ∃ i : Nat, i + g = 2 ∧ wx = w.iter ⟨#[47, 0]⟩ i)
    case atStart => exact ⟨0, by omega, rfl⟩
    case round =>
      obtain ⟨i, hig, rfl⟩ := hrel
      cases gk with
      | zero =>
        obtain rfl : i = 2 := by omega
        have hnx := run_next_end (P := Tryd.prog) w ⟨#[47, 0]⟩ 2
        go_wp2
        go_ret
        exact ⟨rfl, (Below.refl _ w).alloc (Nat.le_refl _) _⟩
      | succ g =>
        rcases (by omega : i = 0 ∨ i = 1) with rfl | rfl
        · have hnx : ∀ ty, (Instr.next (.pointer (some ⟨w.heap.size, 0, none⟩)) true ty).run Tryd.prog (w.iter ⟨#[47, 0]⟩ 0) = .ok (.tuple #[.bool true, .int .i64 0, .int .i32 47]) (w.iter ⟨#[47, 0]⟩ 1) := fun ty => run_next_ascii (P := Tryd.prog) w ⟨#[47, 0]⟩ 0 ty (by decide) (by decide)
          go_wp2
          go_roundg g
          case measure => omega
          case rel => exact ⟨1, by omega, rfl⟩
        · have hnx : ∀ ty, (Instr.next (.pointer (some ⟨w.heap.size, 0, none⟩)) true ty).run Tryd.prog (w.iter ⟨#[47, 0]⟩ 1) = .ok (.tuple #[.bool true, .int .i64 1, .int .i32 0]) (w.iter ⟨#[47, 0]⟩ 2) := fun ty => run_next_ascii (P := Tryd.prog) w ⟨#[47, 0]⟩ 1 ty (by decide) (by decide)
          go_wp2
          go_roundg g
          case measure => omega
          case rel => exact ⟨2, by omega, rfl⟩
  · have h3' : (r == 65533) = false := beq_eq_false_iff_ne.2 h3
    rcases Bool.eq_false_or_eq_true (Lib.validRune r) with hv | hv
    rotate_left
    · go_wp2_with (refine (Tryd.utf8_ValidRune r _).mono ?_; rintro e w' ⟨rfl, rfl⟩; rw [hv])
      go_ret
      exact ⟨rfl, Below.refl _ _⟩
    · have hv2 : Utf8.valid r = true := by
        unfold Lib.validRune at hv
        have := of_decide_eq_true hv
        unfold Utf8.valid
        simp only [Bool.or_eq_true, Bool.and_eq_true, decide_eq_true_eq]
        omega
      obtain ⟨hz1, hz2, hlast⟩ := encode_facts r hv2 h0
      have hcv : ∀ w, (convert 21 9 (.int .i32 r)).run Tryd.prog w = .ok (.string (Utf8.encode r)) w := fun w => run_convert_int_string (P := Tryd.prog) w _ _ .i32 r rfl rfl
      generalize Utf8.encode r = rs at *
      rcases (by omega : rs.size = 2 ∨ 3 ≤ rs.size) with hz | hz
      · obtain ⟨c, hc⟩ : ∃ c : UInt8, c = rs[1]'(by omega) := ⟨_, rfl⟩
        have hcl : 128 ≤ c.toNat := by
          rw [hc]
          have := hlast (by omega)
          simpa [hz] using this
        have hix : rs[1]'(by omega) = c := hc.symm
        have HL := Lib.hid hlast
        clear hlast hc hz1 hz2
        have hne : (((chB[1]'(by decide)).toNat : Int) != (c.toNat : Int)) = true := bne_iff_ne.2 (by have : (chB[1]'(by decide)).toNat = 0 := rfl; omega)
        have HCALL := Lib.hid (fun (s : ByteArray) (hs : s.data.toList = []) (w : World) => (Tryd.strings_IndexByte s (c.toNat : Int) w).mono (R' := fun e w' => e = .returned (.int .i64 (-1)) ∧ w' = w) (by rintro e w' ⟨rfl, rfl⟩; rw [hs]; exact ⟨rfl, rfl⟩))
        go_wp2_with (refine (Tryd.utf8_ValidRune r _).mono ?_; rintro e w' ⟨rfl, rfl⟩; rw [hv])
        refine wp_scope_straight ?_
        go_wp2
        go_loopg [9, 10, 11, 12] 1 (fun g u9 u10 _ _ wx => g = 1 ∧ u9 = .int .i64 1 ∧ u10 = .int .i64 0 ∧ wx = w')
        case atStart => exact ⟨rfl, rfl, rfl, rfl⟩
        case round =>
          obtain ⟨rfl, rfl, rfl, rfl⟩ := hrel
          have hmo : Tryd.prog.follows .mixedOrders = true := by kernel_rfl
          go_wp2
          refine wp_scope_straight ?_
          go_wp2
          go_quiet (fail)
          go_wp2
          go_quiet ((go_at_call 61; refine (HCALL.out (chB.extract 2 chB.size) rfl _).mono ?_; rintro e w' ⟨rfl, rfl⟩; exact ⟨rfl, _, rfl⟩))
          go_wp2
          simp only [Exit.noGoto, Exit.inBlock, Exit.then]
          go_ret
          exact ⟨rfl, ⟨rfl, rfl, rfl, Nat.le_refl _, fun _ _ => rfl⟩⟩
      · obtain ⟨k, hk, hk2⟩ : ∃ k : Nat, (rs.size : Int) - 1 = (k : Int) ∧ 2 ≤ k := ⟨rs.size - 1, by omega, by omega⟩
        have hw1 : IntKind.i64.wrap ((rs.size : Int) - 1) = (k : Int) := by rw [hk]; exact IntWalk.i64_in _ (by omega)
        clear hk hlast
        have hlt : decide ((k : Int) < 2) = false := decide_eq_false (by omega)
        go_wp2_with (refine (Tryd.utf8_ValidRune r _).mono ?_; rintro e w' ⟨rfl, rfl⟩; rw [hv])
        refine wp_scope_straight ?_
        go_wp2
        go_loopg [9, 10, 11, 12] 1 (fun g u9 _ _ _ wx => g = 1 ∧ u9 = .int .i64 k ∧ wx = w')
        case atStart => exact ⟨rfl, rfl, rfl⟩
        case round =>
          obtain ⟨rfl, rfl, rfl⟩ := hrel
          go_wp2
          unfold Exit.noGoto Exit.inBlock
          dsimp only
          go_ret
          exact ⟨rfl, Below.refl _ _⟩
/-- What a rune takes: no byte of a rune that is no ASCII is a slash or zero. -/
theorem decode_high_all (s : ByteArray) (i : Nat) (h : i < s.size) (ha : 128 ≤ (s[i]'h).toNat) : ∀ j, i ≤ j → j < i + (Utf8.decode s i).2 → ∀ b, s.data.toList[j]? = some b → 128 ≤ b.toNat := by
  have hg : ∀ k (hk : i + k < s.size), (s.get! (i + k)) = s[i + k]'hk := fun k hk => by
    have := get_at s (i + k) hk
    rw [Nat.add_zero] at this
    exact this
  have hl : ∀ j b, s.data.toList[j]? = some b → ∃ hj : j < s.size, s[j]'hj = b := fun j b hb => by
    have hj : j < s.size := by
      have := (List.getElem?_eq_some_iff.1 hb).1
      rw [Lib.size_eq]; exact this
    refine ⟨hj, ?_⟩
    have := Lib.data_getElem? s j hj
    rw [hb] at this
    exact (Option.some.inj this).symm
  intro j hij hjw b hb
  obtain ⟨hj, rfl⟩ := hl j b hb
  rcases Nat.eq_or_lt_of_le hij with rfl | hlt
  · exact ha
  obtain ⟨k, rfl⟩ : ∃ k, j = i + k := ⟨j - i, by omega⟩
  have h0 : s.get! (i + 0) = s[i]'h := get_at s i h
  have hgk := hg k hj
  rw [← hgk]
  have hn : ¬ (s.get! (i + 0)).toNat < 128 := by rw [h0]; omega
  revert hjw
  simp only [Utf8.decode, hn, if_false]
  have hk1 : 1 ≤ k := by omega
  intro hjw
  have hwd : ∀ (m : Nat), (decide (i + m < s.size) && (s.get! (i + m)).toNat / 64 == 2) = true → 128 ≤ (s.get! (i + m)).toNat := fun m hm => by
    simp only [Bool.and_eq_true, beq_iff_eq] at hm
    omega
  split at hjw
  · rename_i hc
    simp only [Bool.and_eq_true] at hc
    have e1 := hwd 1 (by simp only [Bool.and_eq_true]; exact hc.2)
    split at hjw <;> simp only [] at hjw
    · obtain rfl : k = 1 := by omega
      exact e1
    · omega
  · split at hjw
    · rename_i hc
      simp only [Bool.and_eq_true] at hc
      have e1 := hwd 1 (by simp only [Bool.and_eq_true]; exact hc.1.2)
      have e2 := hwd 2 (by simp only [Bool.and_eq_true]; exact hc.2)
      split at hjw <;> simp only [] at hjw
      · rcases (by omega : k = 1 ∨ k = 2) with rfl | rfl
        · exact e1
        · exact e2
      · omega
    · split at hjw
      · rename_i hc
        simp only [Bool.and_eq_true] at hc
        have e1 := hwd 1 (by simp only [Bool.and_eq_true]; exact hc.1.1.2)
        have e2 := hwd 2 (by simp only [Bool.and_eq_true]; exact hc.1.2)
        have e3 := hwd 3 (by simp only [Bool.and_eq_true]; exact hc.2)
        split at hjw <;> simp only [] at hjw
        · rcases (by omega : k = 1 ∨ k = 2 ∨ k = 3) with rfl | rfl | rfl
          · exact e1
          · exact e2
          · exact e3
        · omega
      · simp only [] at hjw
        omega
end Go.Proofs.YtmcafiihicanfaaDoor

/- files: strings.ContainsAny of a slash or a zero byte, of any bytes; Name. -/
namespace Go.Proofs.YtmcafiihicanfaaDoor
open Go Go.RowKit Go.BigFrame
open Fil (Es Nd Sp badB)

theorem slash_idx (b : UInt8) : (decide ((0 : Int) ≤ Lib.indexByte chB.data.toList b)) = badB b := by
  show decide ((0 : Int) ≤ Lib.indexByte [47, 0] b) = _
  simp only [Lib.indexByte, badB]
  by_cases h1 : b = 47
  · subst h1; rfl
  · by_cases h2 : b = 0
    · subst h2; rfl
    · have e1 : ((47 : UInt8) == b) = false := beq_eq_false_iff_ne.2 (Ne.symm h1)
      have e2 : ((0 : UInt8) == b) = false := beq_eq_false_iff_ne.2 (Ne.symm h2)
      have e3 : (b == 47) = false := beq_eq_false_iff_ne.2 h1
      have e4 : (b == 0) = false := beq_eq_false_iff_ne.2 h2
      simp [e1, e2, e3, e4]
/-- No bad byte up to a place. -/
def NoBad (s : ByteArray) (i : Nat) : Prop := ∀ j b, j < i → s.data.toList[j]? = some b → badB b = false
theorem NoBad.all {s : ByteArray} {i : Nat} (h : NoBad s i) (hi : s.size ≤ i) : s.data.toList.any badB = false := by
  rw [List.any_eq_false]
  intro b hb
  obtain ⟨j, hj, rfl⟩ := List.getElem_of_mem hb
  have := h j _ (by have := Lib.size_eq s; omega) (List.getElem?_eq_getElem hj)
  simpa using this
theorem bad_high {b : UInt8} (h : 128 ≤ b.toNat) : badB b = false := by
  have h1 : b ≠ 47 := fun e => by subst e; exact absurd h (by decide)
  have h2 : b ≠ 0 := fun e => by subst e; exact absurd h (by decide)
  simp [badB, h1, h2]
set_option maxRecDepth 1000000 in
set_option maxRecDepth 100000 in
set_option maxHeartbeats 4000000 in
theorem indexAny_short (s : ByteArray) (h8 : s.size ≤ 8) (w : World) :
    Calls Tryd.prog 50 #[.string s, .string chB] w fun e W => (∃ i : Int, e = .returned (.int .i64 i) ∧ decide (0 ≤ i) = s.data.toList.any badB) ∧ Below w.heap.size w W := by
  have hz : (chB.size : Int) = 2 := rfl
  have h8z : decide ((8 : Int) < (s.size : Int)) = false := decide_eq_false (by omega)
  have hemp : chB.toList.isEmpty = false := by rw [Lib.toList_data]; rfl
  go_enter Tryd.func50, Tryd.ntmps50
  go_wp2_with (go_at_call 56; refine (Tryd.strings_shouldUseASCIISet _ _).mono ?_; rintro e w' ⟨rfl, hw⟩; rw [hw, h8z])
  go_loopg [9, 10] s.size (fun g _ _ wx => ∃ i : Nat, s.size ≤ i + g ∧ wx.heap[w.heap.size]? = some (.stringIter s i) ∧ Below w.heap.size w wx ∧ Hid (NoBad s i))
  case atStart => exact ⟨0, by omega, World.iter_heap w s 0, (Below.refl _ _).alloc (Nat.le_refl _) _, fun j b hj => by omega⟩
  case round =>
    obtain ⟨i, hig, hit, hbw, HN⟩ := hrel
    by_cases hi : i < s.size
    · have hnx : ∀ ty, (Instr.next (.pointer (some ⟨w.heap.size, 0, none⟩)) true ty).run Tryd.prog wr = _ := fun ty => Lib.run_next_any_at wr w.heap.size s i ty hit hi
      have hit2 := Lib.iterAt_heap wr w.heap.size s i (i + (Utf8.decode s i).2) hit
      have hbw2 := Lib.below_iterAt hbw (k := w.heap.size) (Nat.le_refl _) s (i + (Utf8.decode s i).2)
      obtain ⟨W1, hW1⟩ : ∃ W1, W1 = wr.iterAt w.heap.size s (i + (Utf8.decode s i).2) := ⟨_, rfl⟩
      rw [← hW1] at hnx hit2 hbw2
      obtain ⟨x, hx⟩ : ∃ x : UInt8, s[i]'hi = x := ⟨_, rfl⟩
      have HX := Lib.hid (show s.data.toList[i]? = some x by rw [← hx]; exact Lib.data_getElem? s i hi)
      have HB := Lib.hid (And.intro hit2 hbw2)
      obtain ⟨g, rfl⟩ : ∃ g, gk = g + 1 := ⟨gk - 1, by omega⟩
      rcases Nat.lt_or_ge x.toNat 128 with hlo | hhi
      · have hdec := decode_ascii s i hi (by rw [hx]; exact hlo)
        rw [hx] at hdec
        rw [hdec] at hnx HB
        have HC := Lib.hid (fun w => (Tryd.strings_IndexRune_ascii chB (x.toNat : Int) w (by omega) (by omega)).mono (R' := fun e w' => e = .returned (.int .i64 (Lib.indexByte chB.data.toList x)) ∧ w' = w) (by rintro e w' ⟨rfl, rfl⟩; exact ⟨by simp, rfl⟩))
        have hsl := slash_idx x
        clear hit hbw hit2 hbw2 hW1 hdec hx
        rcases Bool.eq_false_or_eq_true (badB x) with hbx | hbx
        · rw [hbx] at hsl
          have hge : (0 : Int) ≤ Lib.indexByte chB.data.toList x := of_decide_eq_true hsl
          have HBX := Lib.hid hbx
          clear hsl hbx
          go_wp2_with (go_at_call 55; refine (HC.out _).mono ?_; rintro e w' ⟨rfl, rfl⟩)
          go_ret
          refine ⟨⟨_, rfl, ?_⟩, HB.out.2⟩
          rw [List.any_eq_true.2 ⟨x, List.mem_of_getElem? HX.out, HBX.out⟩]
          exact decide_eq_true (by omega)
        · rw [hbx] at hsl
          have hlt : ¬ (0 : Int) ≤ Lib.indexByte chB.data.toList x := of_decide_eq_false hsl
          have HBX := Lib.hid hbx
          clear hsl hbx
          go_wp2_with (go_at_call 55; refine (HC.out _).mono ?_; rintro e w' ⟨rfl, rfl⟩)
          go_roundg g
          case measure => omega
          case rel =>
            refine ⟨i + 1, by omega, HB.out.1, HB.out.2, fun j b hj hb => ?_⟩
            rcases Nat.lt_or_ge j i with hji | hji
            · exact HN.out j b hji hb
            · obtain rfl : j = i := by omega
              rw [HX.out] at hb
              cases hb
              exact HBX.out
      · obtain ⟨hd1, hd2⟩ := decode_high s i hi (by rw [hx]; exact hhi)
        have hd3 := decode_le s i
        have HALL := Lib.hid (decode_high_all s i hi (by rw [hx]; exact hhi))
        have HC := Lib.hid (fun w => slash_rune ((Utf8.decode s i).1 : Int) (by omega) (by omega) w)
        generalize (Utf8.decode s i).1 = r at *
        generalize (Utf8.decode s i).2 = wd at *
        clear hit hbw hit2 hbw2 hW1 hx hd1 hd3
        go_wp2_with (go_at_call 55; refine (HC.out _).mono ?_; rintro e w2 ⟨rfl, hb2⟩)
        go_roundg g
        case measure => omega
        case rel =>
          refine ⟨i + wd, by omega, (hb2.block _ (Array.getElem?_eq_some_iff.1 HB.out.1).1).trans HB.out.1, HB.out.2.trans (hb2.mono HB.out.2.size), fun j b hj hb => ?_⟩
          rcases Nat.lt_or_ge j i with hji | hji
          · exact HN.out j b hji hb
          · exact bad_high (HALL.out j hji hj b hb)
    · have hnx := fun ty => Lib.run_next_end_at (P := Tryd.prog) wr w.heap.size s i ty hit hi
      have HP := Lib.hid (HN.out.all (by omega))
      clear hit
      go_wp2
      go_ret
      exact ⟨⟨_, rfl, by rw [HP.out]; rfl⟩, hbw⟩
theorem indexAny_chB : ∀ l : List UInt8, decide (0 ≤ Lib.indexAny l chB.data.toList) = l.any badB
  | [] => rfl
  | b :: l => by
    have hc : chB.data.toList.contains b = badB b := (Lib.contains_iff_indexByte _ b).trans (slash_idx b)
    have ih := indexAny_chB l
    have hge := Lib.indexAny_ge chB.data.toList l
    rw [Lib.indexAny, hc, List.any_cons]
    generalize Lib.indexAny l chB.data.toList = k at *
    cases badB b with
    | true => rfl
    | false =>
      rw [if_neg Bool.false_ne_true, Bool.false_or, ← ih]
      by_cases hk : k = -1
      · subst hk; rfl
      · rw [if_neg (by rw [beq_iff_eq]; exact hk)]
        rw [decide_eq_decide]
        omega
/-- strings.ContainsAny of a slash or a zero byte. -/
theorem containsAny_any (s : ByteArray) (hs : s.size < 4294967281) (w : World) :
    Calls Tryd.prog 37 #[.string s, .string chB] w fun e W => e = .returned (.bool (s.data.toList.any badB)) ∧ Below w.heap.size w W := by
  have HI : ∀ w, Calls Tryd.prog 50 #[.string s, .string chB] w fun e W => (∃ i : Int, e = .returned (.int .i64 i) ∧ decide (0 ≤ i) = s.data.toList.any badB) ∧ Below w.heap.size w W := fun w => by
    rcases Nat.lt_or_ge 8 s.size with h | h
    · refine (Tryd.strings_IndexAny_long (fun w => by kernel_rfl) s chB w (by decide) h hs (by decide) (fun j b hb => ?_)).mono ?_
      · rcases List.getElem?_eq_some_iff.1 hb with ⟨hj, rfl⟩
        have hj2 : j < 2 := hj
        rcases (by omega : j = 0 ∨ j = 1) with rfl | rfl
        · exact (by decide : (47 : UInt8).toNat < 128)
        · exact (by decide : (0 : UInt8).toNat < 128)
      · rintro e W ⟨rfl, rfl⟩
        exact ⟨⟨_, rfl, indexAny_chB _⟩, ((Below.refl _ w).alloc (Nat.le_refl _) _).alloc (by simp) _⟩
    · exact indexAny_short s h w
  go_enter Tryd.func37, Tryd.ntmps37
  go_wp2_with (go_at_call 50; refine (HI _).mono ?_; rintro e W ⟨⟨i, rfl, hi⟩, hb⟩; have HV := Lib.hid hi; clear hi)
  go_ret
  exact ⟨by rw [← HV.out]; rfl, hb⟩
theorem eq_toList (s t : ByteArray) : decide (s ≠ t) = !(s.toList == t.toList) := by
  rw [Lib.toList_data, Lib.toList_data]
  by_cases h : s = t
  · subst h; simp
  · have h2 : s.data ≠ t.data := fun e => h (by cases s; cases t; simp only at e; rw [e])
    simp [h, h2]
theorem nameB_eq (s : ByteArray) : Fil.nameB s = (!(s.toList.isEmpty || decide ((255 : Int) < (s.size : Int)) || s.toList == [46] || s.toList == [46, 46]) && !s.data.toList.any badB) := by
  have e1 : decide (1 ≤ s.size) = !s.toList.isEmpty := by
    have hs := Lib.size_eq s
    rw [Lib.toList_data]
    cases h : s.data.toList with
    | nil => rw [h] at hs; simp at hs; simp [hs]
    | cons a l => rw [h] at hs; simp at hs; simp; omega
  have e2 : decide (s.size ≤ 255) = !decide ((255 : Int) < (s.size : Int)) := by
    by_cases h : s.size ≤ 255
    · rw [decide_eq_true h, decide_eq_false (by omega)]; rfl
    · rw [decide_eq_false h, decide_eq_true (by omega)]; rfl
  unfold Fil.nameB
  rw [e1, e2, eq_toList, eq_toList]
  rw [show (⟨#[46]⟩ : ByteArray).toList = [46] by rw [Lib.toList_data], show (⟨#[46, 46]⟩ : ByteArray).toList = [46, 46] by rw [Lib.toList_data]]
  simp only [Bool.not_or]
theorem name_any (s : ByteArray) (w : World) :
    Calls Tryd.prog 10 #[.string s] w fun e W => e = .returned (.bool (Fil.nameB s)) ∧ Below w.heap.size w W := by
  rw [nameB_eq]
  go_enter Tryd.func10, Tryd.ntmps10
  go_wp2_with (go_at_call 37; refine (containsAny_any s (by omega) _).mono ?_; rintro e W ⟨rfl, hb⟩)
  all_goals
    go_ret
    refine ⟨?_, by first | exact Below.refl _ _ | assumption⟩
    show Ending.returned (Value.bool _) = _
    refine congrArg (fun b => Ending.returned (Value.bool b)) ?_
    first
      | (simp [*]; done)
      | (rename_i h; rcases h with ((h | h) | h) | h <;> simp [h]; done)
      | trace_state
end Go.Proofs.YtmcafiihicanfaaDoor
