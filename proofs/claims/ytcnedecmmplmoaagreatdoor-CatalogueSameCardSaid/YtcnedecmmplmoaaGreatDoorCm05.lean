/- Contract of the reference's Parse. -/
import Derived.Test.YtcnedecmmplmoaaGreatDoorCm04
set_option linter.unusedVariables false
set_option linter.unusedSimpArgs false
namespace Go.Proofs.YtcnedecmmplmoaaGreatDoor
open Go.RowKit Go.BigFrame
open Ver (brk parts prs prsH digB tagB numV okNum okTag BL)

def endOf (s : ByteArray) (k : Nat) : Nat := k + (brk 45 (s.data.toList.drop k)).1.length
theorem drop_at (s : ByteArray) (k : Nat) (h : k < s.size) : s.data.toList.drop k = s[k] :: s.data.toList.drop (k + 1) := by
  rw [List.drop_eq_getElem_cons (by rw [len_data]; exact h)]; rfl
theorem endOf_last (s : ByteArray) : endOf s s.size = s.size := by
  unfold endOf; rw [List.drop_of_length_le (by rw [len_data]; exact Nat.le_refl _)]; rfl
theorem endOf_hit (s : ByteArray) (k : Nat) (h : k < s.size) (hc : (s[k].toNat : Int) = 45) : endOf s k = k := by
  have e : s[k] = 45 := UInt8.toNat_inj.1 (by simpa using (by omega : s[k].toNat = 45))
  unfold endOf; rw [drop_at s k h, e]; simp [brk]
theorem endOf_miss (s : ByteArray) (k : Nat) (h : k < s.size) (hc : (s[k].toNat : Int) ≠ 45) : endOf s k = endOf s (k + 1) := by
  have e : s[k] ≠ 45 := fun e => hc (by rw [e]; rfl)
  unfold endOf; rw [drop_at s k h, brk, if_neg e]; simp; omega
theorem endOf_le (s : ByteArray) (k : Nat) (h : k ≤ s.size) : endOf s k ≤ s.size := by
  unfold endOf
  cases hb : (brk 45 (s.data.toList.drop k)).2.2
  · rw [(Ver.brk_no 45 _ hb).1, List.length_drop, len_data]; omega
  · have := congrArg List.length (Ver.brk_yes 45 _ hb).1
    rw [List.length_drop, len_data, List.length_append, List.length_cons] at this; omega
theorem endOf_zero (s : ByteArray) : endOf s 0 = (bA 45 s).size := by
  unfold endOf; rw [← len_data (bA 45 s), bA_list]; simp
theorem cut_at_yes (s : ByteArray) (h : bF 45 s = true) : (bA 45 s).size < s.size ∧ bR 45 s = s.extract ((bA 45 s).size + 1) s.size := by
  obtain ⟨i, _, hi, e1, e2⟩ := cut_yes 45 s h
  have : (bA 45 s).size = i := by rw [e1]; simp; omega
  rw [this]; exact ⟨hi, e2⟩
theorem head_take (s : ByteArray) : (bA 45 s).data.toList = s.data.toList.take (bA 45 s).size := by
  cases h : bF 45 s
  · rw [(cut_no 45 s h).1, take_all]
  · obtain ⟨i, _, hi, e1, e2⟩ := cut_yes 45 s h
    have : (bA 45 s).size = i := by rw [e1]; simp; omega
    rw [this, e1, Lib.extract_data]; simp
theorem nil_of (s : ByteArray) (h : s.size = 0) : s.data.toList = [] := List.eq_nil_of_length_eq_zero (by rw [len_data]; exact h)
theorem prs_tagBad (s : ByteArray) (h : bF 45 s = true) (h2 : (bR 45 s).size = 0 ∨ okTag (bR 45 s).data.toList = false) : prs s.data.toList = none := by
  apply prs_tagNo
  unfold tagOK
  rw [h, fullTag_eq]
  rcases h2 with h2 | h2
  · rw [nil_of _ h2]; rfl
  · rw [h2]; simp
theorem prs_tagGood (s : ByteArray) (h : bF 45 s = false ∨ (1 ≤ (bR 45 s).size ∧ okTag (bR 45 s).data.toList = true)) : prs s.data.toList = (prsH (bA 45 s).data.toList).map fun ns => (ns, (bR 45 s).data.toList) := by
  apply prs_tagYes
  unfold tagOK
  rcases h with h | ⟨h1, h2⟩
  · rw [h]; rfl
  · have hne : (bR 45 s).data.toList ≠ [] := fun e => by have := congrArg List.length e; rw [len_data, List.length_nil] at this; omega
    rw [fullTag_eq, h2, Bool.and_true]
    simp [hne]

/-- The loop over the head: what lies behind, and what is being read. -/
def SegInv (H : BL) (E k f : Nat) (done : List BL) : Prop :=
  (k ≤ E ∧ f ≤ k ∧ parts 46 H = done ++ parts 46 (H.drop f) ∧ (46 : UInt8) ∉ (H.drop f).take (k - f)) ∨ (k = E + 1 ∧ f = k ∧ parts 46 H = done)
theorem seg_start (H : BL) (E : Nat) : SegInv H E 0 0 [] := .inl ⟨Nat.zero_le _, Nat.le_refl _, by simp, by simp⟩
theorem seg_split (H : BL) (f k : Nat) (hf : f ≤ k) (hk : k < H.length) : H.drop f = (H.drop f).take (k - f) ++ H[k] :: H.drop (k + 1) := by
  have h1 : (H.drop f).drop (k - f) = H[k] :: H.drop (k + 1) := by rw [List.drop_drop, show f + (k - f) = k by omega, List.drop_eq_getElem_cons hk]
  rw [← h1, List.take_append_drop]
theorem seg_next {H : BL} {E k f : Nat} {done : List BL} (h : SegInv H E k f done) (hE : H.length = E) (hk : k < E) (hc : H[k]'(by omega) ≠ 46) : SegInv H E (k + 1) f done := by
  rcases h with ⟨h1, h2, h3, h4⟩ | ⟨h1, _⟩
  · refine .inl ⟨by omega, by omega, h3, ?_⟩
    have hd : k - f < (H.drop f).length := by rw [List.length_drop]; omega
    rw [show k + 1 - f = (k - f) + 1 by omega, List.take_succ_eq_append_getElem hd]
    rw [List.mem_append]
    rintro (h | h)
    · exact h4 h
    · rw [List.mem_singleton, List.getElem_drop] at h
      apply hc
      rw [h]
      congr 1
      omega
  · omega
theorem seg_cut {H : BL} {E k f : Nat} {done : List BL} (h : SegInv H E k f done) (hE : H.length = E) (hk : k < E) (hc : H[k]'(by omega) = 46) : SegInv H E (k + 1) (k + 1) (done ++ [(H.drop f).take (k - f)]) := by
  rcases h with ⟨h1, h2, h3, h4⟩ | ⟨h1, _⟩
  · refine .inl ⟨by omega, by omega, ?_, by simp⟩
    have e := seg_split H f k h2 (by omega)
    rw [hc] at e
    rw [h3, e, Ver.parts_app 46 _ _ h4, List.append_assoc]
    rw [← e]
    rfl
  · omega
theorem seg_last {H : BL} {E f : Nat} {done : List BL} (h : SegInv H E E f done) (hE : H.length = E) : SegInv H E (E + 1) (E + 1) (done ++ [(H.drop f).take (E - f)]) := by
  rcases h with ⟨h1, h2, h3, h4⟩ | ⟨h1, _⟩
  · refine .inr ⟨rfl, rfl, ?_⟩
    have ht : (H.drop f).take (E - f) = H.drop f := List.take_of_length_le (by rw [List.length_drop]; omega)
    rw [ht] at h4 ⊢
    rw [h3, Ver.parts_not 46 _ h4]
  · omega
theorem seg_bad {H : BL} {E k : Nat} {done : List BL} {p : BL} (h : SegInv H E (k + 1) (k + 1) (done ++ [p])) (hp : okNum p = false) : prsH H = none := by
  unfold prsH
  rcases h with ⟨_, _, h3, _⟩ | ⟨_, _, h3⟩
  · rw [h3, List.all_append, List.all_append, List.all_cons, hp, if_neg (by simp)]
  · rw [h3, List.all_append, List.all_cons, hp, if_neg (by simp)]
theorem seg_end {H : BL} {E f : Nat} {done : List BL} (h : SegInv H E (E + 1) f done) (hd : done.all okNum = true) : prsH H = if done.length ≤ 8 then some (done.map numV) else none := by
  rcases h with ⟨h1, _⟩ | ⟨_, _, h3⟩
  · omega
  · unfold prsH
    rw [h3, hd]
    by_cases h8 : done.length ≤ 8
    · rw [if_pos h8, if_pos ⟨h8, rfl⟩]
    · rw [if_neg h8, if_neg (fun h => h8 h.1)]
theorem seg_text (s : ByteArray) (f k : Nat) (hk : k ≤ (bA 45 s).size) : (s.extract f k).data.toList = ((bA 45 s).data.toList.drop f).take (k - f) := by
  rw [head_take, Lib.extract_data, List.drop_take, List.take_take, show min (k - f) ((bA 45 s).size - f) = k - f by omega]
theorem head_get (s : ByteArray) (k : Nat) (hk : k < (bA 45 s).size) (hs : k < s.size) (h : k < (bA 45 s).data.toList.length) : (bA 45 s).data.toList[k] = s[k] := by
  have e := head_take s
  have : (bA 45 s).data.toList[k]? = s.data.toList[k]? := by rw [e, List.getElem?_take, if_pos hk]
  rw [List.getElem?_eq_getElem h, List.getElem?_eq_getElem (by rw [len_data]; exact hs)] at this
  exact Option.some.inj this
theorem refNumber_yes (s : ByteArray) (w : World) (hs : s.size ≤ maxLen) (h : okNum s.data.toList = true) :
    Calls Tryz.prog 99 #[.string s] w fun e w' => e = .returned (.tuple #[.int .i64 (numV s.data.toList : Int), .bool true]) ∧ ∃ nq, w' = w.drewN nq :=
  (refNumber_any s w hs).mono fun _ _ ⟨⟨n, he, hn⟩, hw⟩ => ⟨by rw [he, h, hn h], hw⟩
theorem refNumber_val (n : Nat) (s : ByteArray) (w : World) (hs : s.size ≤ maxLen) (h : okNum s.data.toList = true) (hn : n = numV s.data.toList) :
    Calls Tryz.prog 99 #[.string s] w fun e w' => e = .returned (.tuple #[.int .i64 (n : Int), .bool true]) ∧ ∃ nq, w' = w.drewN nq := hn ▸ refNumber_yes s w hs h
theorem refNumber_no (s : ByteArray) (w : World) (hs : s.size ≤ maxLen) (h : okNum s.data.toList = false) :
    Calls Tryz.prog 99 #[.string s] w (fun e w' => ∃ n nq, e = .returned (.tuple #[.int .i64 n, .bool false]) ∧ w' = w.drewN nq) :=
  (refNumber_any s w hs).mono fun _ _ ⟨⟨n, he, _⟩, nq, hw⟩ => ⟨n, nq, by rw [he, h], hw⟩
theorem two_start (w W0 : World) (o o0 : Obj) (h0 : W0.heap[w.heap.size]? = some o0) (hs : W0.heap.size = w.heap.size + 1) (hb : Below w.heap.size w W0) : ∃ W1, W1 = W0.alloc o ∧ W1.heap[w.heap.size]? = some o0 ∧ W1.heap[w.heap.size + 1]? = some o ∧ W1.heap.size = w.heap.size + 2 ∧ Below w.heap.size w W1 :=
  ⟨_, rfl, (old_block _ _ _ (by omega)).trans h0, by rw [← hs]; exact heap_alloc_new _ _, by simp [hs], hb.alloc (by omega) _⟩

set_option maxRecDepth 100000 in
set_option maxHeartbeats 2000000 in
theorem refParse_any (s : ByteArray) (w : World) (hs : s.size ≤ 1000000) :
    Calls Tryz.prog 66 #[.string s] w (Prs s w) := by
  obtain ⟨i0, hi, hz0, hz1, hz2⟩ := info_parts infoInt
  have HI := Lib.hid hi
  have HZ0 := Lib.hid hz0
  have HZ1 := Lib.hid hz1
  have HZ2 := Lib.hid hz2
  clear hi hz0 hz1 hz2
  go_enter Tryz.func66, Tryz.ntmps66
  go_upto_region 1 with (fail)
  obtain ⟨W0, hW0, hg0, hs0, hb0⟩ := v_start w 0 (.cells #[.slice none 0 0, .string ⟨#[]⟩] 110)
  rw [show w.alloc (.cells #[.slice none 0 0, .string ⟨#[]⟩] 110) = W0 from hW0.symm]
  clear hW0
  go_wp2
  go_loop [4, 5] (fun en i => ∃ k : Nat, k ≤ s.size ∧ i = .int .i64 ((k : Int) - 1) ∧ en = .int .i64 (endOf s k : Int)) (fun _ i => (intOf i + 1).toNat)
  case atStart => exact ⟨s.size, by omega, rfl, val_int (by rw [endOf_last])⟩
  case round =>
    obtain ⟨k, hk, rfl, rfl⟩ := hrel
    rcases Nat.eq_zero_or_pos k with h0 | h0
    · subst h0
      rw [endOf_zero]
      have hE := bA_size 45 s
      have hR := bR_size 45 s
      have HEL := Lib.hid (len_data (bA 45 s))
      cases hb : bF 45 s
      · obtain ⟨ha, hr, _⟩ := cut_no 45 s hb
        have hes : (bA 45 s).size = s.size := by rw [ha]
        have HP := Lib.hid (prs_tagGood s (.inl hb))
        have HR := Lib.hid hr
        have hlt : decide (((bA 45 s).size : Int) < (s.size : Int)) = false := by rw [hes]; simp
        have hle : s.size ≤ (bA 45 s).size := by omega
        clear ha hr hes hb
        go_wp2
        obtain ⟨W1, hW1, hga, hgv, hs1, hb1⟩ := two_start w W0 (.cells #[.slice none 0 0, .string ⟨#[]⟩] 110) _ hg0 hs0 hb0
        rw [← hW1]
        rw [show (⟨#[]⟩ : ByteArray) = bR 45 s from HR.out.symm] at hgv
        clear hW1 hg0 hs0 hb0 hlt
        go_loopw [7, 8] (fun fr i wr => ∃ (k f : Nat) (done : List BL) (v : Value), i = .int .i64 k ∧ fr = .int .i64 f ∧ k ≤ (bA 45 s).size + 1 ∧ done.length ≤ k ∧ f ≤ k ∧ Hid (SegInv (bA 45 s).data.toList (bA 45 s).size k f done) ∧ Hid (done.all okNum = true) ∧
            wr.ownsRow (w.heap.size + 2) 3 1 v done.length (doneV done) ∧ wr.heap[w.heap.size]? = some (.cells #[.slice none 0 0, .string ⟨#[]⟩] 110 (0, 0)) ∧ wr.heap[w.heap.size + 1]? = some (.cells #[v, .string (bR 45 s)] 110 (0, 0)) ∧ Below w.heap.size w wr ∧ w.heap.size + 2 ≤ wr.heap.size) (fun _ i _ => (bA 45 s).size + 1 - (intOf i).toNat)
        case atStart => exact ⟨0, 0, [], _, rfl, rfl, by omega, by simp, by omega, Lib.hid (seg_start _ _), Lib.hid rfl, World.ownsRow_nil _ _ _ _, hga, hgv, hb1, by omega⟩
        case round =>
          clear hga hgv hb1 hs1
          obtain ⟨k, f, done, v, rfl, rfl, hk, hdk, hfk, HS, HD, hown, hga, hgv, hbr, hsz⟩ := hrel
          obtain ⟨A, cap, rfl⟩ := own_form hown
          obtain ⟨hc0, hc1, hf0, hf1⟩ := cell_two hga
          obtain ⟨hd0, hd1, hh0, hh1⟩ := cell_two hgv
          by_cases hle2 : k ≤ (bA 45 s).size
          · have hks : k ≤ s.size := by omega
            have HT := Lib.hid (seg_text s f k hle2)
            by_cases hcase : ∃ h : k < (bA 45 s).size, (s[k]'(by omega)) ≠ 46
            · obtain ⟨hlt2, hne⟩ := hcase
              have hks' : k < s.size := by omega
              have hb46 : ((s[k].toNat : Int) != 46) = true := by rw [bne_iff_ne]; intro e; exact hne (UInt8.toNat_inj.1 (by simpa using (by omega : s[k].toNat = 46)))
              have HN := Lib.hid (seg_next HS.out HEL.out hlt2 (by rw [head_get s k hlt2 hks']; exact hne))
              clear hne
              go_wp2
              go_roundw
              case rel => exact ⟨k + 1, f, done, _, by go_num, rfl, by omega, by omega, by omega, HN, HD, hown, hga, hgv, hbr, hsz⟩
              case measure => simp [intOf]; omega
            · have HN : Hid (SegInv (bA 45 s).data.toList (bA 45 s).size (k + 1) (k + 1) (done ++ [(s.extract f k).data.toList])) := by
                rw [HT.out]
                by_cases hlt2 : k < (bA 45 s).size
                · have hks' : k < s.size := by omega
                  have he : s[k] = 46 := Classical.byContradiction fun h => hcase ⟨hlt2, h⟩
                  exact Lib.hid (seg_cut HS.out HEL.out hlt2 (by rw [head_get s k hlt2 hks']; exact he))
                · obtain rfl : k = (bA 45 s).size := by omega
                  exact Lib.hid (seg_last HS.out HEL.out)
              have HCC : (k < (bA 45 s).size ∧ ∃ h : k < s.size, ((s[k].toNat : Int) != 46) = false) ∨ ((bA 45 s).size ≤ k) := by
                by_cases hlt2 : k < (bA 45 s).size
                · have hks' : k < s.size := by omega
                  have he : s[k] = 46 := Classical.byContradiction fun h => hcase ⟨hlt2, h⟩
                  exact .inl ⟨hlt2, hks', by rw [he]; rfl⟩
                · exact .inr (by omega)
              clear hcase
              have hxs : (s.extract f k).size ≤ s.size := by simp; omega
              cases hok : okNum (s.extract f k).data.toList
              · have HPN := Lib.hid (show prs s.data.toList = none by rw [HP.out, seg_bad HN.out hok]; rfl)
                have HOK := Lib.hid hok
                clear hok hga hgv hd0 hd1 hh0 hh1
                rcases HCC with ⟨hlt2, hks', hb46⟩ | hge2
                all_goals
                  go_wp2_with (go_at_call 99; refine (refNumber_no _ _ (by unfold maxLen; omega) HOK.out).mono ?_; rintro e w' ⟨n, nq, rfl, rfl⟩)
                  refine bodyPost_ret (v := .tuple #[.agg #[.slice none 0 0, .string ⟨#[]⟩], .int .i64 130]) (by simp [results, Tryz.results66, go_sem, hc0, hc1, hf0, hf1]) rfl (prs_mk_no HPN.out ⟨rfl, ?_⟩)
                  exact ((below_drewN hbr _).setCell (Nat.le_refl _) _).setCell (Nat.le_refl _) _
              · have HOK := Lib.hid hok
                have HON := Lib.hid (show (done ++ [(s.extract f k).data.toList]).all okNum = true by rw [List.all_append, HD.out, List.all_cons, hok]; rfl)
                obtain ⟨nv, hnv⟩ : ∃ nv, nv = numV (s.extract f k).data.toList := ⟨_, rfl⟩
                have HV := Lib.hid (show doneV (done ++ [(s.extract f k).data.toList]) = doneV done ++ [vI nv] by rw [hnv, doneV_snoc])
                have HNV := Lib.hid hnv
                clear hnv
                have HGA := Lib.hid hga
                have HGV := Lib.hid hgv
                clear hok hga hgv hc0 hc1 hf0 hf1
                rcases HCC with ⟨hlt2, hks', hb46⟩ | hge2
                all_goals
                  go_upto_region 20 with (go_at_call 99; refine (refNumber_val nv _ _ (by unfold maxLen; omega) HOK.out HNV.out).mono ?_; rintro e w' ⟨rfl, nq, rfl⟩)
                  go_wp2_with (at_builtin; refine wpList_append_own _ rfl _ _ 43 rfl (w.heap.size + 2) 3 i0 (.int .i64 0) 1 8 Tryz.underlying43 HI.out HZ0.out HZ1.out HZ2.out rfl (by decide) _ _ _ rfl ((own_drewN hown _).alloc _) ⟨wr.heap.size, 0, none⟩ 1 1 [vI nv] rfl rfl ?c1 ?c2 ?c3 ?c4 ?c5 ?_)
                  case c1 => exact cell_one_at _ _ _ _ (by first | rfl | simp)
                  case c2 => exact vI_one [_]
                  case c3 => unfold maxLen; omega
                  case c4 => omega
                  case c5 => simp; omega
                  intro v' w1 hown1 hgrow1 _
                  have hbw1 := ((below_drewN hbr nq).alloc (by simp; omega) _).grown hgrow1 (by simp; omega) (fun k e => by have := (hown.lt k e).1; omega)
                  have hkept := (below_drewN (Below.refl (w.heap.size + 2) wr) nq).alloc (by simp; omega) (.cells #[vI nv] 3) |>.grown hgrow1 (by simp; omega) (fun k e => (hown.lt k e).1)
                  rw [← HV.out] at hown1
                  obtain ⟨A1, cap1, rfl⟩ := own_form hown1
                  have hga1 := (hkept.block w.heap.size (by omega)).trans HGA.out
                  have hgv1 := (hkept.block (w.heap.size + 1) (by omega)).trans HGV.out
                  have hsz1 : w.heap.size + 2 ≤ w1.heap.size := by have := hkept.size; omega
                  obtain ⟨hd0, hd1, hh0, hh1⟩ := cell_two hgv1
                  have hga2 := (heap_setCell_other w1 ⟨w.heap.size + 1, 0, none⟩ w.heap.size (.slice A1 (done.length + 1) cap1) (by simp)).trans hga1
                  have hgv2 := heap_setCell_same w1 (w.heap.size + 1) 0 _ _ (.slice A1 (done.length + 1) cap1) hgv1
                  have hown2 := own_setCell hown1 ⟨w.heap.size + 1, 0, none⟩ (Nat.lt_succ_self _) (.slice A1 (done.length + 1) cap1)
                  have hbw2 := hbw1.setCell (p := ⟨w.heap.size + 1, 0, none⟩) (Nat.le_succ _) (.slice A1 (done.length + 1) cap1)
                  have hsz2 : w.heap.size + 2 ≤ (w1.setCell ⟨w.heap.size + 1, 0, none⟩ (.slice A1 (done.length + 1) cap1)).heap.size := by simp; omega
                  clear hga1 hgv1 hown1 hbw1 hkept hgrow1 hown hbr
                  go_wp2
                  go_roundw
                  case rel => exact ⟨k + 1, k + 1, done ++ [(s.extract f k).data.toList], _, by go_num, by go_num, by omega, by simp; omega, by omega, HN, HON, by rw [List.length_append]; exact hown2, hga2, hgv2, hbw2, hsz2⟩
                  case measure => simp [intOf]; omega
          · have hkE : k = (bA 45 s).size + 1 := by omega
            have HPE : Hid (prsH (bA 45 s).data.toList = if done.length ≤ 8 then some (done.map numV) else none) := Lib.hid (seg_end (by rw [← hkE]; exact HS.out) HD.out)
            clear hkE hga hgv
            by_cases h8 : done.length ≤ 8
            · have HPY := Lib.hid (show prs s.data.toList = some (done.map numV, (bR 45 s).data.toList) by rw [HP.out, HPE.out, if_pos h8]; rfl)
              go_wp2
              refine bodyPost_ret (v := .tuple #[.agg #[.slice A done.length cap, .string (bR 45 s)], .int .i64 0]) (by simp [results, Tryz.results66, go_sem, hc0, hc1, hf0, hf1]) rfl (prs_mk_yes HPY.out ⟨_, rfl, ?_, ?_⟩)
              · have := own_mono (own_setCell (own_setCell hown ⟨w.heap.size, 0, none⟩ (by show w.heap.size < w.heap.size + 2; omega) (.slice A done.length cap)) ⟨w.heap.size, 1, none⟩ (by show w.heap.size < w.heap.size + 2; omega) (.string (bR 45 s))) (show w.heap.size ≤ w.heap.size + 2 by omega)
                rw [List.length_map, show (done.map numV).map vI = doneV done by simp [doneV]]
                exact this
              · exact (hbr.setCell (Nat.le_refl _) _).setCell (Nat.le_refl _) _
            · have HPN := Lib.hid (show prs s.data.toList = none by rw [HP.out, HPE.out, if_neg h8]; rfl)
              go_wp2
              refine bodyPost_ret (v := .tuple #[.agg #[.slice none 0 0, .string ⟨#[]⟩], .int .i64 130]) (by simp [results, Tryz.results66, go_sem, hc0, hc1, hf0, hf1]) rfl (prs_mk_no HPN.out ⟨rfl, ?_⟩)
              exact (hbr.setCell (Nat.le_refl _) _).setCell (Nat.le_refl _) _
      · obtain ⟨hlt, hr⟩ := cut_at_yes s hb
        have HR := Lib.hid hr.symm
        have HBF := Lib.hid hb
        clear hr hb
        go_upto_region 10 with (fail)
        rw [HR.out]
        obtain ⟨W1, hW1, hga, hgv, hs1, hb1⟩ := two_start w W0 (.cells #[.slice none 0 0, .string (bR 45 s)] 110) _ hg0 hs0 hb0
        rw [← hW1]
        clear hW1 hg0 hs0 hb0
        obtain ⟨hc0, hc1, hf0, hf1⟩ := cell_two hga
        obtain ⟨hd0, hd1, hh0, hh1⟩ := cell_two hgv
        rcases Nat.eq_zero_or_pos (bR 45 s).size with hz | hz
        · have HPN := Lib.hid (prs_tagBad s HBF.out (.inl hz))
          have hn := nil_list _ hz
          clear hz hga hgv
          go_wp2
          refine bodyPost_ret (v := .tuple #[.agg #[.slice none 0 0, .string ⟨#[]⟩], .int .i64 130]) (by simp [results, Tryz.results66, go_sem, hc0, hc1, hf0, hf1]) rfl (prs_mk_no HPN.out ⟨rfl, ?_⟩)
          exact (hb1.setCell (Nat.le_refl _) _).setCell (Nat.le_refl _) _
        · have hn := cons_list _ hz
          cases hok : okTag (bR 45 s).data.toList
          · have HPN := Lib.hid (prs_tagBad s HBF.out (.inr hok))
            have HOK := Lib.hid hok
            clear hok hga hgv
            go_wp2_with (go_at_call 98; refine (refTag_any _ _ (by unfold maxLen; omega)).mono ?_; rw [HOK.out]; rintro e w' ⟨rfl, rfl⟩)
            refine bodyPost_ret (v := .tuple #[.agg #[.slice none 0 0, .string ⟨#[]⟩], .int .i64 130]) (by simp [results, Tryz.results66, go_sem, hc0, hc1, hf0, hf1]) rfl (prs_mk_no HPN.out ⟨rfl, ?_⟩)
            exact (hb1.setCell (Nat.le_refl _) _).setCell (Nat.le_refl _) _
          · have HP := Lib.hid (prs_tagGood s (.inr ⟨hz, hok⟩))
            have HOK := Lib.hid hok
            clear hok
            go_wp2_with (go_at_call 98; refine (refTag_any _ _ (by unfold maxLen; omega)).mono ?_; rw [HOK.out]; rintro e w' ⟨rfl, rfl⟩)
            clear hc0 hc1 hf0 hf1 hd0 hd1 hh0 hh1
            go_loopw [7, 8] (fun fr i wr => ∃ (k f : Nat) (done : List BL) (v : Value), i = .int .i64 k ∧ fr = .int .i64 f ∧ k ≤ (bA 45 s).size + 1 ∧ done.length ≤ k ∧ f ≤ k ∧ Hid (SegInv (bA 45 s).data.toList (bA 45 s).size k f done) ∧ Hid (done.all okNum = true) ∧
                wr.ownsRow (w.heap.size + 2) 3 1 v done.length (doneV done) ∧ wr.heap[w.heap.size]? = some (.cells #[.slice none 0 0, .string ⟨#[]⟩] 110 (0, 0)) ∧ wr.heap[w.heap.size + 1]? = some (.cells #[v, .string (bR 45 s)] 110 (0, 0)) ∧ Below w.heap.size w wr ∧ w.heap.size + 2 ≤ wr.heap.size) (fun _ i _ => (bA 45 s).size + 1 - (intOf i).toNat)
            case atStart => exact ⟨0, 0, [], _, rfl, rfl, by omega, by simp, by omega, Lib.hid (seg_start _ _), Lib.hid rfl, World.ownsRow_nil _ _ _ _, hga, hgv, hb1, by omega⟩
            case round =>
              clear hga hgv hb1 hs1
              obtain ⟨k, f, done, v, rfl, rfl, hk, hdk, hfk, HS, HD, hown, hga, hgv, hbr, hsz⟩ := hrel
              obtain ⟨A, cap, rfl⟩ := own_form hown
              obtain ⟨hc0, hc1, hf0, hf1⟩ := cell_two hga
              obtain ⟨hd0, hd1, hh0, hh1⟩ := cell_two hgv
              by_cases hle2 : k ≤ (bA 45 s).size
              · have hks : k ≤ s.size := by omega
                have HT := Lib.hid (seg_text s f k hle2)
                by_cases hcase : ∃ h : k < (bA 45 s).size, (s[k]'(by omega)) ≠ 46
                · obtain ⟨hlt2, hne⟩ := hcase
                  have hks' : k < s.size := by omega
                  have hb46 : ((s[k].toNat : Int) != 46) = true := by rw [bne_iff_ne]; intro e; exact hne (UInt8.toNat_inj.1 (by simpa using (by omega : s[k].toNat = 46)))
                  have HN := Lib.hid (seg_next HS.out HEL.out hlt2 (by rw [head_get s k hlt2 hks']; exact hne))
                  clear hne
                  go_wp2
                  go_roundw
                  case rel => exact ⟨k + 1, f, done, _, by go_num, rfl, by omega, by omega, by omega, HN, HD, hown, hga, hgv, hbr, hsz⟩
                  case measure => simp [intOf]; omega
                · have HN : Hid (SegInv (bA 45 s).data.toList (bA 45 s).size (k + 1) (k + 1) (done ++ [(s.extract f k).data.toList])) := by
                    rw [HT.out]
                    by_cases hlt2 : k < (bA 45 s).size
                    · have hks' : k < s.size := by omega
                      have he : s[k] = 46 := Classical.byContradiction fun h => hcase ⟨hlt2, h⟩
                      exact Lib.hid (seg_cut HS.out HEL.out hlt2 (by rw [head_get s k hlt2 hks']; exact he))
                    · obtain rfl : k = (bA 45 s).size := by omega
                      exact Lib.hid (seg_last HS.out HEL.out)
                  have HCC : (k < (bA 45 s).size ∧ ∃ h : k < s.size, ((s[k].toNat : Int) != 46) = false) ∨ ((bA 45 s).size ≤ k) := by
                    by_cases hlt2 : k < (bA 45 s).size
                    · have hks' : k < s.size := by omega
                      have he : s[k] = 46 := Classical.byContradiction fun h => hcase ⟨hlt2, h⟩
                      exact .inl ⟨hlt2, hks', by rw [he]; rfl⟩
                    · exact .inr (by omega)
                  clear hcase
                  have hxs : (s.extract f k).size ≤ s.size := by simp; omega
                  cases hok : okNum (s.extract f k).data.toList
                  · have HPN := Lib.hid (show prs s.data.toList = none by rw [HP.out, seg_bad HN.out hok]; rfl)
                    have HOK := Lib.hid hok
                    clear hok hga hgv hd0 hd1 hh0 hh1
                    rcases HCC with ⟨hlt2, hks', hb46⟩ | hge2
                    all_goals
                      go_wp2_with (go_at_call 99; refine (refNumber_no _ _ (by unfold maxLen; omega) HOK.out).mono ?_; rintro e w' ⟨n, nq, rfl, rfl⟩)
                      refine bodyPost_ret (v := .tuple #[.agg #[.slice none 0 0, .string ⟨#[]⟩], .int .i64 130]) (by simp [results, Tryz.results66, go_sem, hc0, hc1, hf0, hf1]) rfl (prs_mk_no HPN.out ⟨rfl, ?_⟩)
                      exact ((below_drewN hbr _).setCell (Nat.le_refl _) _).setCell (Nat.le_refl _) _
                  · have HOK := Lib.hid hok
                    have HON := Lib.hid (show (done ++ [(s.extract f k).data.toList]).all okNum = true by rw [List.all_append, HD.out, List.all_cons, hok]; rfl)
                    obtain ⟨nv, hnv⟩ : ∃ nv, nv = numV (s.extract f k).data.toList := ⟨_, rfl⟩
                    have HV := Lib.hid (show doneV (done ++ [(s.extract f k).data.toList]) = doneV done ++ [vI nv] by rw [hnv, doneV_snoc])
                    have HNV := Lib.hid hnv
                    clear hnv
                    have HGA := Lib.hid hga
                    have HGV := Lib.hid hgv
                    clear hok hga hgv hc0 hc1 hf0 hf1
                    rcases HCC with ⟨hlt2, hks', hb46⟩ | hge2
                    all_goals
                      go_upto_region 20 with (go_at_call 99; refine (refNumber_val nv _ _ (by unfold maxLen; omega) HOK.out HNV.out).mono ?_; rintro e w' ⟨rfl, nq, rfl⟩)
                      go_wp2_with (at_builtin; refine wpList_append_own _ rfl _ _ 43 rfl (w.heap.size + 2) 3 i0 (.int .i64 0) 1 8 Tryz.underlying43 HI.out HZ0.out HZ1.out HZ2.out rfl (by decide) _ _ _ rfl ((own_drewN hown _).alloc _) ⟨wr.heap.size, 0, none⟩ 1 1 [vI nv] rfl rfl ?c1 ?c2 ?c3 ?c4 ?c5 ?_)
                      case c1 => exact cell_one_at _ _ _ _ (by first | rfl | simp)
                      case c2 => exact vI_one [_]
                      case c3 => unfold maxLen; omega
                      case c4 => omega
                      case c5 => simp; omega
                      intro v' w1 hown1 hgrow1 _
                      have hbw1 := ((below_drewN hbr nq).alloc (by simp; omega) _).grown hgrow1 (by simp; omega) (fun k e => by have := (hown.lt k e).1; omega)
                      have hkept := (below_drewN (Below.refl (w.heap.size + 2) wr) nq).alloc (by simp; omega) (.cells #[vI nv] 3) |>.grown hgrow1 (by simp; omega) (fun k e => (hown.lt k e).1)
                      rw [← HV.out] at hown1
                      obtain ⟨A1, cap1, rfl⟩ := own_form hown1
                      have hga1 := (hkept.block w.heap.size (by omega)).trans HGA.out
                      have hgv1 := (hkept.block (w.heap.size + 1) (by omega)).trans HGV.out
                      have hsz1 : w.heap.size + 2 ≤ w1.heap.size := by have := hkept.size; omega
                      obtain ⟨hd0, hd1, hh0, hh1⟩ := cell_two hgv1
                      have hga2 := (heap_setCell_other w1 ⟨w.heap.size + 1, 0, none⟩ w.heap.size (.slice A1 (done.length + 1) cap1) (by simp)).trans hga1
                      have hgv2 := heap_setCell_same w1 (w.heap.size + 1) 0 _ _ (.slice A1 (done.length + 1) cap1) hgv1
                      have hown2 := own_setCell hown1 ⟨w.heap.size + 1, 0, none⟩ (Nat.lt_succ_self _) (.slice A1 (done.length + 1) cap1)
                      have hbw2 := hbw1.setCell (p := ⟨w.heap.size + 1, 0, none⟩) (Nat.le_succ _) (.slice A1 (done.length + 1) cap1)
                      have hsz2 : w.heap.size + 2 ≤ (w1.setCell ⟨w.heap.size + 1, 0, none⟩ (.slice A1 (done.length + 1) cap1)).heap.size := by simp; omega
                      clear hga1 hgv1 hown1 hbw1 hkept hgrow1 hown hbr
                      go_wp2
                      go_roundw
                      case rel => exact ⟨k + 1, k + 1, done ++ [(s.extract f k).data.toList], _, by go_num, by go_num, by omega, by simp; omega, by omega, HN, HON, by rw [List.length_append]; exact hown2, hga2, hgv2, hbw2, hsz2⟩
                      case measure => simp [intOf]; omega
              · have hkE : k = (bA 45 s).size + 1 := by omega
                have HPE : Hid (prsH (bA 45 s).data.toList = if done.length ≤ 8 then some (done.map numV) else none) := Lib.hid (seg_end (by rw [← hkE]; exact HS.out) HD.out)
                clear hkE hga hgv
                by_cases h8 : done.length ≤ 8
                · have HPY := Lib.hid (show prs s.data.toList = some (done.map numV, (bR 45 s).data.toList) by rw [HP.out, HPE.out, if_pos h8]; rfl)
                  go_wp2
                  refine bodyPost_ret (v := .tuple #[.agg #[.slice A done.length cap, .string (bR 45 s)], .int .i64 0]) (by simp [results, Tryz.results66, go_sem, hc0, hc1, hf0, hf1]) rfl (prs_mk_yes HPY.out ⟨_, rfl, ?_, ?_⟩)
                  · have := own_mono (own_setCell (own_setCell hown ⟨w.heap.size, 0, none⟩ (by show w.heap.size < w.heap.size + 2; omega) (.slice A done.length cap)) ⟨w.heap.size, 1, none⟩ (by show w.heap.size < w.heap.size + 2; omega) (.string (bR 45 s))) (show w.heap.size ≤ w.heap.size + 2 by omega)
                    rw [List.length_map, show (done.map numV).map vI = doneV done by simp [doneV]]
                    exact this
                  · exact (hbr.setCell (Nat.le_refl _) _).setCell (Nat.le_refl _) _
                · have HPN := Lib.hid (show prs s.data.toList = none by rw [HP.out, HPE.out, if_neg h8]; rfl)
                  go_wp2
                  refine bodyPost_ret (v := .tuple #[.agg #[.slice none 0 0, .string ⟨#[]⟩], .int .i64 130]) (by simp [results, Tryz.results66, go_sem, hc0, hc1, hf0, hf1]) rfl (prs_mk_no HPN.out ⟨rfl, ?_⟩)
                  exact (hbr.setCell (Nat.le_refl _) _).setCell (Nat.le_refl _) _
    · obtain ⟨j, rfl⟩ : ∃ j, k = j + 1 := ⟨k - 1, by omega⟩
      have hj : j < s.size := by omega
      rw [show ((j + 1 : Nat) : Int) - 1 = (j : Int) by omega]
      by_cases hc : (s[j].toNat : Int) = 45
      · have HE := Lib.hid (endOf_hit s j hj hc)
        have hcb : ((s[j].toNat : Int) == 45) = true := by rw [hc]; rfl
        clear hc
        go_wp2
        go_round
        case rel => exact ⟨j, by omega, rfl, val_int (by rw [HE.out])⟩
        case measure => simp [intOf]
      · have HE := Lib.hid (endOf_miss s j hj hc)
        have hcb : ((s[j].toNat : Int) == 45) = false := by simpa using hc
        clear hc
        go_wp2
        go_round
        case rel => exact ⟨j, by omega, rfl, val_int (by rw [HE.out])⟩
        case measure => simp [intOf]
end Go.Proofs.YtcnedecmmplmoaaGreatDoor
