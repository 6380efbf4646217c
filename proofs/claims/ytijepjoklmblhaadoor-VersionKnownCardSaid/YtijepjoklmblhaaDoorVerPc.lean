/- Contract of the reference's Print. -/
import Derived.Test.YtijepjoklmblhaaDoorVerPb
namespace Go.Proofs.YtijepjoklmblhaaDoor
open Go.RowKit Go.BigFrame
open Ver (prt okTag BL)

theorem inter_snoc : ∀ (ps : List BL) (p : BL), ps ≠ [] → List.intercalate [46] (ps ++ [p]) = List.intercalate [46] ps ++ 46 :: p
  | [], _, h => absurd rfl h
  | [q], p, _ => by rw [Ver.inter_one, show [q] ++ [p] = [q, p] from rfl, Ver.inter_cons2, Ver.inter_one]
  | q :: r :: ps, p, _ => by
    have ih := inter_snoc (r :: ps) p (by simp)
    rw [show (q :: r :: ps) ++ [p] = q :: r :: (ps ++ [p]) from rfl, Ver.inter_cons2, Ver.inter_cons2, show r :: (ps ++ [p]) = (r :: ps) ++ [p] from rfl, ih, List.append_assoc]; rfl
def iL (xs : List Int) : BL := List.intercalate [46] ((toN xs).map Lib.decDigits)
theorem iL_first (xs : List Int) (h : 0 < xs.length) : iL (xs.take 1) = Lib.decDigits (xs.getD 0 0).toNat := by
  cases xs with
  | nil => simp at h
  | cons x xs => simp [iL, toN, List.intercalate]
theorem iL_next (xs : List Int) (k : Nat) (h : k < xs.length) (hk : 0 < k) : iL (xs.take (k + 1)) = iL (xs.take k) ++ 46 :: Lib.decDigits (xs.getD k 0).toNat := by
  unfold iL toN
  rw [List.take_succ_eq_append_getElem h, List.map_append, List.map_append]
  have e : xs.getD k 0 = xs[k] := by simp [List.getD, h]
  rw [e]
  refine inter_snoc _ _ ?_
  intro e2
  have := congrArg List.length e2
  rw [List.length_map, List.length_map, List.length_take, List.length_nil] at this
  omega
set_option maxRecDepth 100000 in
set_option maxHeartbeats 1000000 in
theorem refPrint_any (a : Value) (xs : List Int) (t : ByteArray) (B : Nat) (w : World) (ha : Reads w B a (ints xs)) (hB : B ≤ w.heap.size) (ht : t.size ≤ 1000000) :
    Calls Tryd.prog 8 #[.agg #[a, .string t]] w fun e w' => e = .returned (.tuple #[.string (printS xs t), .int .i64 (errP xs t)]) ∧ Below w.heap.size w w' := by
  obtain ⟨A, ca, rfl, hla, hma, hza, hra⟩ := ha
  rw [ints_len] at *
  have HR := Lib.hid hra
  unfold maxLen at *
  clear hra hza
  obtain ⟨W1, hW1, hg0, hb1, hs1⟩ := row_new w (.cells #[.slice A xs.length ca, .string t] 30)
  have hs1' : w.heap.size < W1.heap.size := by omega
  clear hs1
  obtain ⟨hc0, hc1, _, _⟩ := cell_two hg0
  by_cases hlen : 1 ≤ xs.length ∧ xs.length ≤ 8
  · obtain ⟨hl1, hl8⟩ := hlen
    cases hok : okTag t.data.toList
    · have HF := Lib.hid (printS_no (okP_tag xs t hok))
      have HOK := Lib.hid hok
      clear hok
      go_enter Tryd.func8, Tryd.ntmps8
      go_upto_region 1 with (fail)
      rw [← hW1]
      clear hW1
      go_wp2_with (go_at_call 24; refine (refTag_any _ _ (by unfold maxLen; omega)).mono ?_; rw [HOK.out]; rintro e w' ⟨rfl, rfl⟩)
      go_ret2
      exact ⟨ret_se HF.out.1.symm HF.out.2.symm, hb1⟩
    · have HOK := Lib.hid hok
      have ht16 : t.size ≤ 16 := by
        have : t.data.toList.length ≤ 16 := by simp only [okTag, Bool.and_eq_true, decide_eq_true_eq] at hok; exact hok.1
        rwa [len_data] at this
      clear hok
      go_enter Tryd.func8, Tryd.ntmps8
      go_upto_region 1 with (fail)
      rw [← hW1]
      clear hW1
      go_wp2_with (go_at_call 24; refine (refTag_any _ _ (by unfold maxLen; omega)).mono ?_; rw [HOK.out]; rintro e w' ⟨rfl, rfl⟩)
      go_loopw [4, 5] (fun s i wr => ∃ (k : Nat) (S : ByteArray), k ≤ xs.length ∧ i = .int .i64 k ∧ s = .string S ∧ S.size ≤ 11 * k ∧ Hid (S.data.toList = iL (xs.take k)) ∧ Hid ((xs.take k).all (fun n => decide (0 ≤ n ∧ n ≤ 999999999)) = true) ∧ Below W1.heap.size W1 wr) (fun _ i _ => xs.length - (intOf i).toNat)
      case atStart => exact ⟨0, ⟨#[]⟩, by omega, rfl, rfl, by decide, Lib.hid rfl, Lib.hid rfl, Below.refl _ _⟩
      case round =>
        obtain ⟨k, S, hk, rfl, rfl, hS, HL, HA, hbr⟩ := hrel
        have hd0 := (hbr.cell (p := ⟨w.heap.size, 0, none⟩) hs1').trans hc0
        have hd1 := (hbr.cell (p := ⟨w.heap.size, 1, none⟩) hs1').trans hc1
        by_cases hlt : k < xs.length
        · obtain ⟨ad, rfl, hbl, hc⟩ := HR.out (by omega)
          have hcx := (hbr.cell (by rw [add_block]; omega)).trans ((hb1.cell (by rw [add_block]; omega)).trans (hc k _ (ints_get xs k hlt)))
          have HOKN := Lib.hid (take_ok xs k hlt HA.out)
          have HNO := Lib.hid (okP_num xs t k hlt)
          have HI0 := Lib.hid (iL_first xs)
          have HI1 := Lib.hid (iL_next xs k hlt)
          obtain ⟨x, hx⟩ : ∃ x, x = xs.getD k 0 := ⟨_, rfl⟩
          have HX := Lib.hid hx
          rw [← hx] at hcx HOKN HNO HI1
          clear hc hbl hx
          by_cases hr : 0 ≤ x ∧ x ≤ 999999999
          · obtain ⟨hr0, hr1⟩ := hr
            obtain ⟨n, rfl⟩ := Int.eq_ofNat_of_zero_le hr0
            have hn : n < 1000000000 := by omega
            have hdl := Ver.dec_len n hn
            obtain ⟨D, hD⟩ : ∃ D, D = dS n := ⟨_, rfl⟩
            have hDz : D.size ≤ 9 := by rw [hD, ← len_data, dS_list]; exact hdl.2
            have HDL := Lib.hid (show D.data.toList = Lib.decDigits n by rw [hD, dS_list])
            have HDG := Lib.hid (fun w => digits_any n hn w)
            rw [← hD] at HDG
            clear hD hdl
            rcases Nat.eq_zero_or_pos k with h0 | h0
            · have HLN := Lib.hid (show (S ++ D).data.toList = iL (xs.take (k + 1)) by
                have hx := HX.out
                have hl := HL.out
                subst h0
                rw [HI0.out (by omega), ← hx]
                have : S.data.toList = [] := hl
                simp [this, HDL.out])
              have HZ := Lib.hid (HOKN.out hr0 hr1)
              have HSZ := Lib.hid (show (S ++ D).size ≤ 11 * (k + 1) by rw [ByteArray.size_append]; omega)
              have hk0 : k ≤ 0 := by omega
              clear h0
              go_wp2_with (go_at_call 25; refine (HDG.out _).mono ?_; rintro e w2 ⟨rfl, hb2⟩)
              go_roundw
              case rel => exact ⟨k + 1, S ++ D, by omega, by go_num, rfl, HSZ.out, HLN, HZ, below_step hbr hb2 hbr.size⟩
              case measure => simp [intOf]; omega
            · have HLN := Lib.hid (show ((S ++ ⟨#[46]⟩) ++ D).data.toList = iL (xs.take (k + 1)) by
                rw [HI1.out h0, ← HL.out]
                simp [HDL.out])
              have HZ := Lib.hid (HOKN.out hr0 hr1)
              have HSZ := Lib.hid (show ((S ++ ⟨#[46]⟩) ++ D).size ≤ 11 * (k + 1) by
                have h46 : (⟨#[46]⟩ : ByteArray).size = 1 := rfl
                rw [ByteArray.size_append, ByteArray.size_append, h46]; omega)
              go_wp2_with (go_at_call 25; refine (HDG.out _).mono ?_; rintro e w2 ⟨rfl, hb2⟩)
              go_roundw
              case rel => exact ⟨k + 1, (S ++ ⟨#[46]⟩) ++ D, by omega, by go_num, rfl, HSZ.out, HLN, HZ, below_step hbr hb2 hbr.size⟩
              case measure => simp [intOf]; omega
          · have HF := Lib.hid (printS_no (HNO.out hr))
            have hrr : x < 0 ∨ (0 ≤ x ∧ 999999999 < x) := by omega
            clear hr
            rcases hrr with hr | ⟨hr, hr2⟩
            all_goals
              go_wp2
              go_ret2
              exact ⟨ret_se HF.out.1.symm HF.out.2.symm, below_step hb1 hbr hb1.size⟩
        · obtain rfl : k = xs.length := by omega
          have hall : xs.all (fun n => decide (0 ≤ n ∧ n ≤ 999999999)) = true := by have := HA.out; rwa [List.take_length] at this
          have HF := Lib.hid (printS_yes (okP_all xs t ⟨hl1, hl8⟩ hall HOK.out))
          have HL' : Hid (S.data.toList = iL xs) := Lib.hid (by rw [HL.out, List.take_length])
          have hbf := below_step hb1 hbr hb1.size
          clear hall
          rcases Nat.eq_zero_or_pos t.size with htz | htz
          · have htn := nil_list t htz
            have HE := Lib.hid (show S = printS xs t by
              refine str_ext ?_
              rw [HF.out.1, HL'.out]
              unfold prt iL
              rw [nil_of t htz, if_pos rfl, List.append_nil])
            clear htz
            go_wp2
            go_ret2
            exact ⟨ret_se HE.out HF.out.2.symm, hbf⟩
          · have htn := cons_list t htz
            have HE := Lib.hid (show (S ++ ⟨#[45]⟩) ++ t = printS xs t by
              refine str_ext ?_
              have htne : t.data.toList ≠ [] := fun e => by have := congrArg List.length e; rw [len_data, List.length_nil] at this; omega
              rw [HF.out.1]
              unfold prt
              rw [if_neg htne, show List.intercalate [46] ((toN xs).map Lib.decDigits) = S.data.toList from HL'.out.symm]
              simp)
            go_wp2
            go_ret2
            exact ⟨ret_se HE.out HF.out.2.symm, hbf⟩
  · have HF := Lib.hid (printS_no (okP_len xs t hlen))
    rcases Nat.eq_zero_or_pos xs.length with h0 | h0
    · have hln : xs.length < 1 := by omega
      clear hlen h0
      go_enter Tryd.func8, Tryd.ntmps8
      go_upto_region 1 with (fail)
      rw [← hW1]
      clear hW1
      go_wp2
      go_ret2
      exact ⟨ret_se HF.out.1.symm HF.out.2.symm, hb1⟩
    · have h8 : 8 < xs.length := by omega
      clear hlen
      go_enter Tryd.func8, Tryd.ntmps8
      go_upto_region 1 with (fail)
      rw [← hW1]
      clear hW1
      go_wp2
      go_ret2
      exact ⟨ret_se HF.out.1.symm HF.out.2.symm, hb1⟩
end Go.Proofs.YtijepjoklmblhaaDoor
