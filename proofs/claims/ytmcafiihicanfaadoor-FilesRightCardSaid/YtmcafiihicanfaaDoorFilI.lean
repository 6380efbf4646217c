/- files: strings.ContainsAny of a slash or a zero byte, of any bytes; Name. -/
import Derived.Test.YtmcafiihicanfaaDoorFilH
import Derived.Lib.OthersKept
import Derived.Lib.TrimU
set_option linter.unusedVariables false
set_option linter.unusedSimpArgs false
namespace Go.Proofs.YtmcafiihicanfaaDoor
open Go Go.RowKit Go.BigFrame
open Fil (Es Nd Sp badB)

theorem slash_idx (b : UInt8) : (decide ((0 : Int) ≤ Lib.indexByte chB.data.toList b)) = badB b := by
  show decide ((0 : Int) ≤ Lib.indexByte [47, 0] b) = _
  simp only [Lib.indexByte, badB]
  by_cases h1 : b = 47
  · subst h1; rfl
  · by_cases h2 : b = 0
    · subst h2; rfl
    · have e1 : ((47 : UInt8) == b) = false := beq_eq_false_iff_ne.2 (Ne.symm h1)
      have e2 : ((0 : UInt8) == b) = false := beq_eq_false_iff_ne.2 (Ne.symm h2)
      have e3 : (b == 47) = false := beq_eq_false_iff_ne.2 h1
      have e4 : (b == 0) = false := beq_eq_false_iff_ne.2 h2
      simp [e1, e2, e3, e4]
/-- No bad byte up to a place. -/
def NoBad (s : ByteArray) (i : Nat) : Prop := ∀ j b, j < i → s.data.toList[j]? = some b → badB b = false
theorem NoBad.all {s : ByteArray} {i : Nat} (h : NoBad s i) (hi : s.size ≤ i) : s.data.toList.any badB = false := by
  rw [List.any_eq_false]
  intro b hb
  obtain ⟨j, hj, rfl⟩ := List.getElem_of_mem hb
  have := h j _ (by have := Lib.size_eq s; omega) (List.getElem?_eq_getElem hj)
  simpa using this
theorem bad_high {b : UInt8} (h : 128 ≤ b.toNat) : badB b = false := by
  have h1 : b ≠ 47 := fun e => by subst e; exact absurd h (by decide)
  have h2 : b ≠ 0 := fun e => by subst e; exact absurd h (by decide)
  simp [badB, h1, h2]
set_option maxRecDepth 1000000 in
set_option maxRecDepth 100000 in
set_option maxHeartbeats 4000000 in
theorem indexAny_short (s : ByteArray) (h8 : s.size ≤ 8) (w : World) :
    Calls Tryd.prog 50 #[.string s, .string chB] w fun e W => (∃ i : Int, e = .returned (.int .i64 i) ∧ decide (0 ≤ i) = s.data.toList.any badB) ∧ Below w.heap.size w W := by
  have hz : (chB.size : Int) = 2 := rfl
  have h8z : decide ((8 : Int) < (s.size : Int)) = false := decide_eq_false (by omega)
  have hemp : chB.toList.isEmpty = false := by rw [Lib.toList_data]; rfl
  go_enter Tryd.func50, Tryd.ntmps50
  go_wp2_with (go_at_call 56; refine (Tryd.strings_shouldUseASCIISet _ _).mono ?_; rintro e w' ⟨rfl, hw⟩; rw [hw, h8z])
  go_loopg [9, 10] s.size (fun g _ _ wx => ∃ i : Nat, s.size ≤ i + g ∧ wx.heap[w.heap.size]? = some (.stringIter s i) ∧ Below w.heap.size w wx ∧ Hid (NoBad s i))
  case atStart => exact ⟨0, by omega, World.iter_heap w s 0, (Below.refl _ _).alloc (Nat.le_refl _) _, fun j b hj => by omega⟩
  case round =>
    obtain ⟨i, hig, hit, hbw, HN⟩ := hrel
    by_cases hi : i < s.size
    · have hnx : ∀ ty, (Instr.next (.pointer (some ⟨w.heap.size, 0, none⟩)) true ty).run Tryd.prog wr = _ := fun ty => Lib.run_next_any_at wr w.heap.size s i ty hit hi
      have hit2 := Lib.iterAt_heap wr w.heap.size s i (i + (Utf8.decode s i).2) hit
      have hbw2 := Lib.below_iterAt hbw (k := w.heap.size) (Nat.le_refl _) s (i + (Utf8.decode s i).2)
      obtain ⟨W1, hW1⟩ : ∃ W1, W1 = wr.iterAt w.heap.size s (i + (Utf8.decode s i).2) := ⟨_, rfl⟩
      rw [← hW1] at hnx hit2 hbw2
      obtain ⟨x, hx⟩ : ∃ x : UInt8, s[i]'hi = x := ⟨_, rfl⟩
      have HX := Lib.hid (show s.data.toList[i]? = some x by rw [← hx]; exact Lib.data_getElem? s i hi)
      have HB := Lib.hid (And.intro hit2 hbw2)
      obtain ⟨g, rfl⟩ : ∃ g, gk = g + 1 := ⟨gk - 1, by omega⟩
      rcases Nat.lt_or_ge x.toNat 128 with hlo | hhi
      · have hdec := decode_ascii s i hi (by rw [hx]; exact hlo)
        rw [hx] at hdec
        rw [hdec] at hnx HB
        have HC := Lib.hid (fun w => (Tryd.strings_IndexRune_ascii chB (x.toNat : Int) w (by omega) (by omega)).mono (R' := fun e w' => e = .returned (.int .i64 (Lib.indexByte chB.data.toList x)) ∧ w' = w) (by rintro e w' ⟨rfl, rfl⟩; exact ⟨by simp, rfl⟩))
        have hsl := slash_idx x
        clear hit hbw hit2 hbw2 hW1 hdec hx
        rcases Bool.eq_false_or_eq_true (badB x) with hbx | hbx
        · rw [hbx] at hsl
          have hge : (0 : Int) ≤ Lib.indexByte chB.data.toList x := of_decide_eq_true hsl
          have HBX := Lib.hid hbx
          clear hsl hbx
          go_wp2_with (go_at_call 55; refine (HC.out _).mono ?_; rintro e w' ⟨rfl, rfl⟩)
          go_ret
          refine ⟨⟨_, rfl, ?_⟩, HB.out.2⟩
          rw [List.any_eq_true.2 ⟨x, List.mem_of_getElem? HX.out, HBX.out⟩]
          exact decide_eq_true (by omega)
        · rw [hbx] at hsl
          have hlt : ¬ (0 : Int) ≤ Lib.indexByte chB.data.toList x := of_decide_eq_false hsl
          have HBX := Lib.hid hbx
          clear hsl hbx
          go_wp2_with (go_at_call 55; refine (HC.out _).mono ?_; rintro e w' ⟨rfl, rfl⟩)
          go_roundg g
          case measure => omega
          case rel =>
            refine ⟨i + 1, by omega, HB.out.1, HB.out.2, fun j b hj hb => ?_⟩
            rcases Nat.lt_or_ge j i with hji | hji
            · exact HN.out j b hji hb
            · obtain rfl : j = i := by omega
              rw [HX.out] at hb
              cases hb
              exact HBX.out
      · obtain ⟨hd1, hd2⟩ := decode_high s i hi (by rw [hx]; exact hhi)
        have hd3 := decode_le s i
        have HALL := Lib.hid (decode_high_all s i hi (by rw [hx]; exact hhi))
        have HC := Lib.hid (fun w => slash_rune ((Utf8.decode s i).1 : Int) (by omega) (by omega) w)
        generalize (Utf8.decode s i).1 = r at *
        generalize (Utf8.decode s i).2 = wd at *
        clear hit hbw hit2 hbw2 hW1 hx hd1 hd3
        go_wp2_with (go_at_call 55; refine (HC.out _).mono ?_; rintro e w2 ⟨rfl, hb2⟩)
        go_roundg g
        case measure => omega
        case rel =>
          refine ⟨i + wd, by omega, (hb2.block _ (Array.getElem?_eq_some_iff.1 HB.out.1).1).trans HB.out.1, HB.out.2.trans (hb2.mono HB.out.2.size), fun j b hj hb => ?_⟩
          rcases Nat.lt_or_ge j i with hji | hji
          · exact HN.out j b hji hb
          · exact bad_high (HALL.out j hji hj b hb)
    · have hnx := fun ty => Lib.run_next_end_at (P := Tryd.prog) wr w.heap.size s i ty hit hi
      have HP := Lib.hid (HN.out.all (by omega))
      clear hit
      go_wp2
      go_ret
      exact ⟨⟨_, rfl, by rw [HP.out]; rfl⟩, hbw⟩
theorem indexAny_chB : ∀ l : List UInt8, decide (0 ≤ Lib.indexAny l chB.data.toList) = l.any badB
  | [] => rfl
  | b :: l => by
    have hc : chB.data.toList.contains b = badB b := (Lib.contains_iff_indexByte _ b).trans (slash_idx b)
    have ih := indexAny_chB l
    have hge := Lib.indexAny_ge chB.data.toList l
    rw [Lib.indexAny, hc, List.any_cons]
    generalize Lib.indexAny l chB.data.toList = k at *
    cases badB b with
    | true => rfl
    | false =>
      rw [if_neg Bool.false_ne_true, Bool.false_or, ← ih]
      by_cases hk : k = -1
      · subst hk; rfl
      · rw [if_neg (by rw [beq_iff_eq]; exact hk)]
        rw [decide_eq_decide]
        omega
/-- strings.ContainsAny of a slash or a zero byte. -/
theorem containsAny_any (s : ByteArray) (hs : s.size < 4294967281) (w : World) :
    Calls Tryd.prog 37 #[.string s, .string chB] w fun e W => e = .returned (.bool (s.data.toList.any badB)) ∧ Below w.heap.size w W := by
  have HI : ∀ w, Calls Tryd.prog 50 #[.string s, .string chB] w fun e W => (∃ i : Int, e = .returned (.int .i64 i) ∧ decide (0 ≤ i) = s.data.toList.any badB) ∧ Below w.heap.size w W := fun w => by
    rcases Nat.lt_or_ge 8 s.size with h | h
    · refine (Tryd.strings_IndexAny_long (fun w => by kernel_rfl) s chB w (by decide) h hs (by decide) (fun j b hb => ?_)).mono ?_
      · rcases List.getElem?_eq_some_iff.1 hb with ⟨hj, rfl⟩
        have hj2 : j < 2 := hj
        rcases (by omega : j = 0 ∨ j = 1) with rfl | rfl
        · exact (by decide : (47 : UInt8).toNat < 128)
        · exact (by decide : (0 : UInt8).toNat < 128)
      · rintro e W ⟨rfl, rfl⟩
        exact ⟨⟨_, rfl, indexAny_chB _⟩, ((Below.refl _ w).alloc (Nat.le_refl _) _).alloc (by simp) _⟩
    · exact indexAny_short s h w
  go_enter Tryd.func37, Tryd.ntmps37
  go_wp2_with (go_at_call 50; refine (HI _).mono ?_; rintro e W ⟨⟨i, rfl, hi⟩, hb⟩; have HV := Lib.hid hi; clear hi)
  go_ret
  exact ⟨by rw [← HV.out]; rfl, hb⟩
theorem eq_toList (s t : ByteArray) : decide (s ≠ t) = !(s.toList == t.toList) := by
  rw [Lib.toList_data, Lib.toList_data]
  by_cases h : s = t
  · subst h; simp
  · have h2 : s.data ≠ t.data := fun e => h (by cases s; cases t; simp only at e; rw [e])
    simp [h, h2]
theorem nameB_eq (s : ByteArray) : Fil.nameB s = (!(s.toList.isEmpty || decide ((255 : Int) < (s.size : Int)) || s.toList == [46] || s.toList == [46, 46]) && !s.data.toList.any badB) := by
  have e1 : decide (1 ≤ s.size) = !s.toList.isEmpty := by
    have hs := Lib.size_eq s
    rw [Lib.toList_data]
    cases h : s.data.toList with
    | nil => rw [h] at hs; simp at hs; simp [hs]
    | cons a l => rw [h] at hs; simp at hs; simp; omega
  have e2 : decide (s.size ≤ 255) = !decide ((255 : Int) < (s.size : Int)) := by
    by_cases h : s.size ≤ 255
    · rw [decide_eq_true h, decide_eq_false (by omega)]; rfl
    · rw [decide_eq_false h, decide_eq_true (by omega)]; rfl
  unfold Fil.nameB
  rw [e1, e2, eq_toList, eq_toList]
  rw [show (⟨#[46]⟩ : ByteArray).toList = [46] by rw [Lib.toList_data], show (⟨#[46, 46]⟩ : ByteArray).toList = [46, 46] by rw [Lib.toList_data]]
  simp only [Bool.not_or]
theorem name_any (s : ByteArray) (w : World) :
    Calls Tryd.prog 10 #[.string s] w fun e W => e = .returned (.bool (Fil.nameB s)) ∧ Below w.heap.size w W := by
  rw [nameB_eq]
  go_enter Tryd.func10, Tryd.ntmps10
  go_wp2_with (go_at_call 37; refine (containsAny_any s (by omega) _).mono ?_; rintro e W ⟨rfl, hb⟩)
  all_goals
    go_ret
    refine ⟨?_, by first | exact Below.refl _ _ | assumption⟩
    show Ending.returned (Value.bool _) = _
    refine congrArg (fun b => Ending.returned (Value.bool b)) ?_
    first
      | (simp [*]; done)
      | (rename_i h; rcases h with ((h | h) | h) | h <;> simp [h]; done)
      | trace_state
end Go.Proofs.YtmcafiihicanfaaDoor
