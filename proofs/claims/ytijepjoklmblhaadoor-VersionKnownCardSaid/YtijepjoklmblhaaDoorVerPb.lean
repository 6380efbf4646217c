/- Contract of version.Print. -/
import Derived.Test.YtijepjoklmblhaaDoorVerPa
namespace Go.Proofs.YtijepjoklmblhaaDoor
open Go.RowKit Go.BigFrame
open Ver (prt okTag BL)

theorem itoa_any (n : Int) (h0 : 0 ≤ n) (h1 : n ≤ 999999999) (w : World) (ht : TabW w) : Calls Tryd.prog 22 #[.int .i64 n] w fun e w' => e = .returned (.string (dS n.toNat)) ∧ Below w.heap.size w w' :=
  (Tryd.strconv_Itoa n (by omega) (by omega) w ht).mono fun _ _ ⟨he, k, os, hw⟩ => ⟨by rw [he, itoa_dec n h0], Grew.below ⟨k, os, hw⟩⟩
def tS (xs : List Int) : List ByteArray := (toN xs).map dS
theorem inter_len : ∀ ps : List BL, (∀ p ∈ ps, p.length ≤ 9) → (List.intercalate [46] ps).length ≤ ps.length * 10
  | [], _ => by simp [List.intercalate]
  | [p], h => by rw [Ver.inter_one]; have := h p (by simp); simp; omega
  | p :: q :: ps, h => by
    rw [Ver.inter_cons2, List.length_append, List.length_cons]
    have h1 := inter_len (q :: ps) fun r hr => h r (by simp [hr])
    have h2 := h p (by simp)
    simp only [List.length_cons] at *
    omega
theorem tS_lists (xs : List Int) : (tS xs).map (·.data.toList) = (toN xs).map Lib.decDigits := by
  unfold tS
  rw [List.map_map]
  exact List.map_congr_left fun n _ => dS_list n
theorem inRange (xs : List Int) (h : xs.all (fun n => decide (0 ≤ n ∧ n ≤ 999999999)) = true) : ∀ n ∈ toN xs, n < 1000000000 := by
  intro n hn
  obtain ⟨z, hz, rfl⟩ := List.mem_map.1 hn
  have := List.all_eq_true.1 h z hz
  simp at this
  omega
theorem join_len (xs : List Int) (h : xs.all (fun n => decide (0 ≤ n ∧ n ≤ 999999999)) = true) : (List.intercalate [46] ((toN xs).map Lib.decDigits)).length ≤ xs.length * 10 := by
  have := inter_len ((toN xs).map Lib.decDigits) fun p hp => by
    obtain ⟨n, hn, rfl⟩ := List.mem_map.1 hp
    exact (Ver.dec_len n (inRange xs h n hn)).2
  simpa [toN] using this
def jS (xs : List Int) : ByteArray := ⟨(List.intercalate [46] ((toN xs).map Lib.decDigits)).toArray⟩
theorem jS_list (xs : List Int) : (jS xs).data.toList = List.intercalate [46] ((toN xs).map Lib.decDigits) := by simp [jS]
theorem join_any (v : Value) (base : Nat) (xs : List Int) (w : World) (h : xs.all (fun n => decide (0 ≤ n ∧ n ≤ 999999999)) = true) (hn : 1 ≤ xs.length) (hn2 : xs.length ≤ 1000) (hown : w.ownsRow base 9 1 v xs.length (strs (tS xs))) :
    Calls Tryd.prog 23 #[v, .string ⟨#[46]⟩] w fun e w' => e = .returned (.string (jS xs)) ∧ Below w.heap.size w w' := by
  rcases hown.2 with ⟨_, e⟩ | ⟨g, cap, cur, rfl, hg, hgg, hnc, hcm, hcs, htake⟩
  · omega
  · have hl : (tS xs).length = xs.length := by simp [tS, toN]
    have hc := Tryd.strings_Join g 0 cap (tS xs) ⟨#[46]⟩ w (fun j x hj => by
      have hjl : j < xs.length := by have := (List.getElem?_eq_some_iff.1 hj).1; omega
      have h1 : (strs (tS xs))[j]? = some (.string x) := by unfold strs; rw [List.getElem?_map, hj]; rfl
      have := hown.cells (g := g) rfl j _ h1
      rwa [show (⟨g, 0, none⟩ : Addr).add j = ⟨g, 0 + j, none⟩ by unfold Addr.add; by_cases h0 : j = 0 <;> simp [h0]] at this) (block_lt hgg) (by omega) (by omega) (by
        rw [tS_lists]
        have := join_len xs h
        show (List.intercalate [46] ((toN xs).map Lib.decDigits)).length ≤ _
        omega)
    rw [hl, tS_lists] at hc
    exact hc
theorem strs_snoc (l : List ByteArray) (x : ByteArray) : strs (l ++ [x]) = strs l ++ [.string x] := by simp [strs]
theorem take_tS (xs : List Int) (k : Nat) (h : k < xs.length) : tS (xs.take (k + 1)) = tS (xs.take k) ++ [dS (xs.getD k 0).toNat] := by
  unfold tS toN
  rw [List.take_succ_eq_append_getElem h, List.map_append, List.map_append]
  have e : xs.getD k 0 = xs[k] := by simp [List.getD, h]
  rw [e]; rfl
theorem take_ok (xs : List Int) (k : Nat) (h : k < xs.length) (ha : (xs.take k).all (fun n => decide (0 ≤ n ∧ n ≤ 999999999)) = true) (h0 : 0 ≤ xs.getD k 0) (h1 : xs.getD k 0 ≤ 999999999) : (xs.take (k + 1)).all (fun n => decide (0 ≤ n ∧ n ≤ 999999999)) = true := by
  rw [List.take_succ_eq_append_getElem h, List.all_append, ha]
  have e : xs.getD k 0 = xs[k] := by simp [List.getD, h]
  rw [e] at h0 h1
  simp [h0, h1]
set_option maxRecDepth 100000 in
set_option maxHeartbeats 1000000 in
theorem print_any (a : Value) (xs : List Int) (t : ByteArray) (B : Nat) (w : World) (ha : Reads w B a (ints xs)) (hB : B ≤ w.heap.size) (ht : t.size ≤ 1000000) (htab : TabW w) :
    Calls Tryd.prog 7 #[.agg #[a, .string t]] w fun e w' => e = .returned (.tuple #[.string (printS xs t), .int .i64 (errP xs t)]) ∧ Below w.heap.size w w' := by
  obtain ⟨A, ca, rfl, hla, hma, hza, hra⟩ := ha
  rw [ints_len] at *
  have HR := Lib.hid hra
  unfold maxLen at *
  clear hra hza
  obtain ⟨i0, hi, hz0, hz1, hz2⟩ := info_parts infoStr
  have HI := Lib.hid hi
  have HZ0 := Lib.hid hz0
  have HZ1 := Lib.hid hz1
  have HZ2 := Lib.hid hz2
  clear hi hz0 hz1 hz2
  obtain ⟨W1, hW1, hg0, hb1, hs1⟩ := row_new w (.cells #[.slice A xs.length ca, .string t] 24)
  have hs1' : w.heap.size < W1.heap.size := by omega
  clear hs1
  obtain ⟨hc0, hc1, _, _⟩ := cell_two hg0
  have HTAB := Lib.hid (htab.below hb1)
  clear htab
  by_cases hlen : 1 ≤ xs.length ∧ xs.length ≤ 8
  · obtain ⟨hl1, hl8⟩ := hlen
    have hln : ((xs.length : Int) == 0) = false := beq_eq_false_iff_ne.2 (by omega)
    cases hok : okTag t.data.toList
    · have HF := Lib.hid (printS_no (okP_tag xs t hok))
      have hts : 1 ≤ t.size := by
        rcases Nat.eq_zero_or_pos t.size with h | h
        · rw [nil_of t h] at hok; cases hok
        · exact h
      have htn := cons_list t hts
      have HFT := Lib.hid (show fullTag t = false by rw [fullTag_eq, hok, Bool.and_false])
      clear hok
      go_enter Tryd.func7, Tryd.ntmps7
      go_upto_region 1 with (fail)
      rw [← hW1]
      clear hW1
      go_wp2_with (go_at_call 21; refine (rightTag_any _ _ (by unfold maxLen; omega)).mono ?_; rw [HFT.out]; rintro e w' ⟨rfl, rfl⟩)
      go_ret2
      exact ⟨ret_se HF.out.1.symm HF.out.2.symm, hb1⟩
    · have HOK := Lib.hid hok
      have HTC : (t.size = 0) ∨ (1 ≤ t.size ∧ fullTag t = true) := by
        rcases Nat.eq_zero_or_pos t.size with h | h
        · exact .inl h
        · refine .inr ⟨h, ?_⟩
          rw [fullTag_eq, hok, Bool.and_true, decide_eq_true_eq]
          intro e; have := congrArg List.length e; rw [len_data, List.length_nil] at this; omega
      have ht16 : t.size ≤ 16 := by
        have : t.data.toList.length ≤ 16 := by simp only [okTag, Bool.and_eq_true, decide_eq_true_eq] at hok; exact hok.1
        rwa [len_data] at this
      clear hok
      rcases HTC with htz | ⟨htz, hft⟩
      · have htn := nil_list t htz
        have HTZ := Lib.hid htz
        clear htz
        go_enter Tryd.func7, Tryd.ntmps7
        go_upto_region 1 with (fail)
        rw [← hW1]
        clear hW1
        go_wp2_with fail
        go_loopw [4, 32] (fun l i wr => ∃ k : Nat, k ≤ xs.length ∧ i = .int .i64 k ∧ Hid ((xs.take k).all (fun n => decide (0 ≤ n ∧ n ≤ 999999999)) = true) ∧ wr.ownsRow W1.heap.size 9 1 l k (strs (tS (xs.take k))) ∧ Below W1.heap.size W1 wr) (fun _ i _ => xs.length - (intOf i).toNat)
        case atStart => exact ⟨0, by omega, rfl, Lib.hid rfl, World.ownsRow_nil _ _ _ _, Below.refl _ _⟩
        case round =>
          obtain ⟨k, hk, rfl, HA, hown, hbr⟩ := hrel
          obtain ⟨Al, cl, rfl⟩ := own_form hown
          by_cases hlt : k < xs.length
          · obtain ⟨ad, rfl, hbl, hc⟩ := HR.out (by omega)
            have hcx := (hbr.cell (by rw [add_block]; omega)).trans ((hb1.cell (by rw [add_block]; omega)).trans (hc k _ (ints_get xs k hlt)))
            have HTK := Lib.hid (take_tS xs k hlt)
            have HOKN := Lib.hid (take_ok xs k hlt HA.out)
            have HNO := Lib.hid (okP_num xs t k hlt)
            obtain ⟨x, hx⟩ : ∃ x, x = xs.getD k 0 := ⟨_, rfl⟩
            rw [← hx] at hcx HTK HOKN HNO
            clear hc hbl hx
            by_cases hr : 0 ≤ x ∧ x ≤ 999999999
            · obtain ⟨hr0, hr1⟩ := hr
              go_wp2_with fail
              refine (itoa_any x hr0 hr1 _ (HTAB.out.below hbr)).mono ?_
              rintro e w2 ⟨rfl, hb2⟩
              have hown2 := own_below hown hb2 (Nat.le_refl _)
              have hbr2 := below_step hbr hb2 hbr.size
              obtain ⟨tx, htx⟩ : ∃ tx, tx = dS x.toNat := ⟨_, rfl⟩
              rw [← htx] at HTK ⊢
              have hz2 := hbr2.size
              clear hown hbr hb2 htx
              go_wp2_with (at_builtin; refine wpList_append_own _ rfl _ _ 38 rfl W1.heap.size 9 i0 (.string ⟨#[]⟩) 1 16 Tryd.underlying38 HI.out HZ0.out HZ1.out HZ2.out rfl (by decide) _ _ _ rfl (hown2.alloc _) ⟨w2.heap.size, 0, none⟩ 1 1 [.string tx] rfl rfl ?c1 ?c2 ?c3 ?c4 ?c5 ?_)
              case c1 => exact cell_one_at _ _ _ _ (by first | rfl | simp)
              case c2 => exact fun u hu => by rw [List.mem_singleton] at hu; rw [hu]; rfl
              case c3 => unfold maxLen; omega
              case c4 => omega
              case c5 => simp; omega
              intro v' w5 hown5 hgrow5 _
              have hbr5 := (hbr2.alloc hz2 (.cells #[.string tx] 9)).grown hgrow5 (by simp; omega) (fun k e => (hown2.lt k e).1)
              rw [← strs_snoc, ← HTK.out] at hown5
              clear hgrow5 hown2 hbr2
              go_wp2
              go_roundw
              case rel => exact ⟨k + 1, by omega, by go_num, Lib.hid (HOKN.out hr0 hr1), hown5, hbr5⟩
              case measure => simp [intOf]; omega
            · have HF := Lib.hid (printS_no (HNO.out hr))
              have hrr : x < 0 ∨ (0 ≤ x ∧ 999999999 < x) := by omega
              clear hr
              rcases hrr with hr | ⟨hr, hr2⟩
              all_goals
                go_wp2
                go_ret2
                exact ⟨ret_se HF.out.1.symm HF.out.2.symm, below_step hb1 hbr hb1.size⟩
          · obtain rfl : k = xs.length := by omega
            have hall : xs.all (fun n => decide (0 ≤ n ∧ n ≤ 999999999)) = true := by have := HA.out; rwa [List.take_length] at this
            have HALL := Lib.hid hall
            have HF := Lib.hid (printS_yes (okP_all xs t ⟨hl1, hl8⟩ hall HOK.out))
            have hjl : (jS xs).size ≤ 100 := by
              have := join_len xs hall
              rw [← len_data, jS_list]; omega
            rw [List.take_length] at hown
            have hcc := (hbr.cell (p := ⟨w.heap.size, 1, none⟩) (by show w.heap.size < W1.heap.size; omega)).trans hc1
            clear hall
            go_wp2_with fail
            refine (join_any _ _ xs _ HALL.out hl1 (by omega) hown).mono ?_
            rintro e w2 ⟨rfl, hb2⟩
            have hcc2 := (hb2.cell (p := ⟨w.heap.size, 1, none⟩) (by show w.heap.size < wr.heap.size; have := hbr.size; omega)).trans hcc
            have hbf := below_step (below_step hb1 hbr hb1.size) hb2 (below_step hb1 hbr hb1.size).size
            obtain ⟨J, hJ⟩ : ∃ J, J = jS xs := ⟨_, rfl⟩
            have HJ := Lib.hid (show J.data.toList = List.intercalate [46] ((toN xs).map Lib.decDigits) by rw [hJ, jS_list])
            rw [← hJ] at hjl ⊢
            clear hJ hown hbr hb2 hcc
            have HE := Lib.hid (show J = printS xs t by
              refine str_ext ?_
              rw [HF.out.1, HJ.out]
              unfold prt
              rw [nil_of t HTZ.out, if_pos rfl, List.append_nil])
            go_wp2
            go_ret2
            exact ⟨ret_se HE.out HF.out.2.symm, hbf⟩
      · have htn := cons_list t htz
        have HFT := Lib.hid hft
        clear hft
        go_enter Tryd.func7, Tryd.ntmps7
        go_upto_region 1 with (fail)
        rw [← hW1]
        clear hW1
        go_wp2_with (go_at_call 21; refine (rightTag_any _ _ (by unfold maxLen; omega)).mono ?_; rw [HFT.out]; rintro e w' ⟨rfl, rfl⟩)
        go_loopw [4, 32] (fun l i wr => ∃ k : Nat, k ≤ xs.length ∧ i = .int .i64 k ∧ Hid ((xs.take k).all (fun n => decide (0 ≤ n ∧ n ≤ 999999999)) = true) ∧ wr.ownsRow W1.heap.size 9 1 l k (strs (tS (xs.take k))) ∧ Below W1.heap.size W1 wr) (fun _ i _ => xs.length - (intOf i).toNat)
        case atStart => exact ⟨0, by omega, rfl, Lib.hid rfl, World.ownsRow_nil _ _ _ _, Below.refl _ _⟩
        case round =>
          obtain ⟨k, hk, rfl, HA, hown, hbr⟩ := hrel
          obtain ⟨Al, cl, rfl⟩ := own_form hown
          by_cases hlt : k < xs.length
          · obtain ⟨ad, rfl, hbl, hc⟩ := HR.out (by omega)
            have hcx := (hbr.cell (by rw [add_block]; omega)).trans ((hb1.cell (by rw [add_block]; omega)).trans (hc k _ (ints_get xs k hlt)))
            have HTK := Lib.hid (take_tS xs k hlt)
            have HOKN := Lib.hid (take_ok xs k hlt HA.out)
            have HNO := Lib.hid (okP_num xs t k hlt)
            obtain ⟨x, hx⟩ : ∃ x, x = xs.getD k 0 := ⟨_, rfl⟩
            rw [← hx] at hcx HTK HOKN HNO
            clear hc hbl hx
            by_cases hr : 0 ≤ x ∧ x ≤ 999999999
            · obtain ⟨hr0, hr1⟩ := hr
              go_wp2_with fail
              refine (itoa_any x hr0 hr1 _ (HTAB.out.below hbr)).mono ?_
              rintro e w2 ⟨rfl, hb2⟩
              have hown2 := own_below hown hb2 (Nat.le_refl _)
              have hbr2 := below_step hbr hb2 hbr.size
              obtain ⟨tx, htx⟩ : ∃ tx, tx = dS x.toNat := ⟨_, rfl⟩
              rw [← htx] at HTK ⊢
              have hz2 := hbr2.size
              clear hown hbr hb2 htx
              go_wp2_with (at_builtin; refine wpList_append_own _ rfl _ _ 38 rfl W1.heap.size 9 i0 (.string ⟨#[]⟩) 1 16 Tryd.underlying38 HI.out HZ0.out HZ1.out HZ2.out rfl (by decide) _ _ _ rfl (hown2.alloc _) ⟨w2.heap.size, 0, none⟩ 1 1 [.string tx] rfl rfl ?c1 ?c2 ?c3 ?c4 ?c5 ?_)
              case c1 => exact cell_one_at _ _ _ _ (by first | rfl | simp)
              case c2 => exact fun u hu => by rw [List.mem_singleton] at hu; rw [hu]; rfl
              case c3 => unfold maxLen; omega
              case c4 => omega
              case c5 => simp; omega
              intro v' w5 hown5 hgrow5 _
              have hbr5 := (hbr2.alloc hz2 (.cells #[.string tx] 9)).grown hgrow5 (by simp; omega) (fun k e => (hown2.lt k e).1)
              rw [← strs_snoc, ← HTK.out] at hown5
              clear hgrow5 hown2 hbr2
              go_wp2
              go_roundw
              case rel => exact ⟨k + 1, by omega, by go_num, Lib.hid (HOKN.out hr0 hr1), hown5, hbr5⟩
              case measure => simp [intOf]; omega
            · have HF := Lib.hid (printS_no (HNO.out hr))
              have hrr : x < 0 ∨ (0 ≤ x ∧ 999999999 < x) := by omega
              clear hr
              rcases hrr with hr | ⟨hr, hr2⟩
              all_goals
                go_wp2
                go_ret2
                exact ⟨ret_se HF.out.1.symm HF.out.2.symm, below_step hb1 hbr hb1.size⟩
          · obtain rfl : k = xs.length := by omega
            have hall : xs.all (fun n => decide (0 ≤ n ∧ n ≤ 999999999)) = true := by have := HA.out; rwa [List.take_length] at this
            have HALL := Lib.hid hall
            have HF := Lib.hid (printS_yes (okP_all xs t ⟨hl1, hl8⟩ hall HOK.out))
            have hjl : (jS xs).size ≤ 100 := by
              have := join_len xs hall
              rw [← len_data, jS_list]; omega
            rw [List.take_length] at hown
            have hcc := (hbr.cell (p := ⟨w.heap.size, 1, none⟩) (by show w.heap.size < W1.heap.size; omega)).trans hc1
            clear hall
            go_wp2_with fail
            refine (join_any _ _ xs _ HALL.out hl1 (by omega) hown).mono ?_
            rintro e w2 ⟨rfl, hb2⟩
            have hcc2 := (hb2.cell (p := ⟨w.heap.size, 1, none⟩) (by show w.heap.size < wr.heap.size; have := hbr.size; omega)).trans hcc
            have hbf := below_step (below_step hb1 hbr hb1.size) hb2 (below_step hb1 hbr hb1.size).size
            obtain ⟨J, hJ⟩ : ∃ J, J = jS xs := ⟨_, rfl⟩
            have HJ := Lib.hid (show J.data.toList = List.intercalate [46] ((toN xs).map Lib.decDigits) by rw [hJ, jS_list])
            rw [← hJ] at hjl ⊢
            clear hJ hown hbr hb2 hcc
            have HE := Lib.hid (show J ++ (⟨#[45]⟩ ++ t) = printS xs t by
              refine str_ext ?_
              have htne : t.data.toList ≠ [] := fun e => by have := congrArg List.length e; rw [len_data, List.length_nil] at this; omega
              rw [HF.out.1]
              unfold prt
              rw [if_neg htne, ← HJ.out]
              simp)
            go_wp2
            go_ret2
            exact ⟨ret_se HE.out HF.out.2.symm, hbf⟩
  · have HF := Lib.hid (printS_no (okP_len xs t hlen))
    rcases Nat.eq_zero_or_pos xs.length with h0 | h0
    · have hln : ((xs.length : Int) == 0) = true := by rw [h0]; rfl
      clear hlen h0
      go_enter Tryd.func7, Tryd.ntmps7
      go_upto_region 1 with (fail)
      rw [← hW1]
      clear hW1
      go_wp2
      go_ret2
      exact ⟨ret_se HF.out.1.symm HF.out.2.symm, hb1⟩
    · have hln : ((xs.length : Int) == 0) = false := beq_eq_false_iff_ne.2 (by omega)
      have h8 : 8 < xs.length := by omega
      clear hlen
      go_enter Tryd.func7, Tryd.ntmps7
      go_upto_region 1 with (fail)
      rw [← hW1]
      clear hW1
      go_wp2
      go_ret2
      exact ⟨ret_se HF.out.1.symm HF.out.2.symm, hb1⟩
end Go.Proofs.YtijepjoklmblhaaDoor
