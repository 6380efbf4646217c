/- Contract of the reference's Sort. -/
import Derived.Test.YtijepjoklmblhaaDoorVerZa
namespace Go.Proofs.YtijepjoklmblhaaDoor
open Go.RowKit Go.BigFrame
open Ver (prs cmpV BL Srt)

/-- The order of texts by their versions. -/
def ordS (s t : ByteArray) : Int := cmpV (verOf s) (verOf t)
theorem ordS_anti (s t : ByteArray) : ordS t s = - ordS s t := Ver.cmpV_ord.anti _ _
theorem ordS_trans (s t u : ByteArray) (h : ordS s t ≤ 0) (h2 : ordS t u ≤ 0) : ordS s u ≤ 0 := Ver.cmpV_ord.trans _ _ _ h h2
theorem ordS_cmp (s t : ByteArray) (h : okS s = true) (h2 : okS t = true) : cmpS s t = ordS s t := by unfold cmpS ordS; rw [if_pos ⟨h, h2⟩]
/-- A row in which one more is being put in its place. -/
structure Bub (T D : List ByteArray) : Prop where
  t : Srt ordS T
  d : Srt ordS D
  m : ∀ p ∈ T, ∀ q ∈ D.tail, ordS p q ≤ 0
theorem Bub.start {L : List ByteArray} {x : ByteArray} (h : Srt ordS L) : Bub L [x] := ⟨h, List.pairwise_singleton _ _, fun _ _ _ hq => by simp at hq⟩
theorem Bub.swap {P R : List ByteArray} {a b : ByteArray} (h : Bub (P ++ [a]) (b :: R)) (hc : ordS b a < 0) : Bub P (b :: a :: R) := by
  have h1 := List.pairwise_append.1 h.t
  have h2 := List.pairwise_cons.1 h.d
  have h3 := h.m
  refine ⟨h1.1, ?_, ?_⟩
  · refine List.pairwise_cons.2 ⟨fun q hq => ?_, List.pairwise_cons.2 ⟨fun q hq => h3 a (by simp) q hq, h2.2⟩⟩
    rcases List.mem_cons.1 hq with rfl | hq
    · omega
    · exact h2.1 q hq
  · intro p hp q hq
    rcases List.mem_cons.1 hq with rfl | hq
    · exact h1.2.2 p hp _ (by simp)
    · exact h3 p (by simp [hp]) q hq
theorem Bub.stay {P R : List ByteArray} {a b : ByteArray} (h : Bub (P ++ [a]) (b :: R)) (hc : 0 ≤ ordS b a) : Bub P (a :: b :: R) := by
  have h1 := List.pairwise_append.1 h.t
  have h2 := List.pairwise_cons.1 h.d
  have h3 := h.m
  have hab : ordS a b ≤ 0 := by have := ordS_anti a b; omega
  refine ⟨h1.1, ?_, ?_⟩
  · refine List.pairwise_cons.2 ⟨fun q hq => ?_, h.d⟩
    rcases List.mem_cons.1 hq with rfl | hq
    · exact hab
    · exact h3 a (by simp) q hq
  · intro p hp q hq
    have hpa : ordS p a ≤ 0 := h1.2.2 p hp a (by simp)
    rcases List.mem_cons.1 hq with rfl | hq
    · exact ordS_trans _ _ _ hpa hab
    · exact h3 p (by simp [hp]) q hq
theorem srt_cmp (l : List ByteArray) (h : ∀ s ∈ l, okS s = true) (hs : Srt ordS l) : Srt cmpS l := by
  unfold Srt at *
  exact hs.imp_of_mem fun ha hb hab => by rw [ordS_cmp _ _ (h _ ha) (h _ hb)]; exact hab
theorem set_two (P R : List ByteArray) (a b : ByteArray) (k : Nat) (hk : P.length = k) : ((strs ((P ++ [a]) ++ b :: R)).set (k + 1) (.string a)).set k (.string b) = strs (P ++ b :: a :: R) := by
  subst hk
  simp [strs, List.set_append]
theorem get_b (P R : List ByteArray) (a b : ByteArray) (k : Nat) (hk : P.length = k) : (strs ((P ++ [a]) ++ b :: R))[k + 1]? = some (.string b) := by
  subst hk
  simp [strs, List.getElem?_append]
theorem get_a (P R : List ByteArray) (a b : ByteArray) (k : Nat) (hk : P.length = k) : (strs ((P ++ [a]) ++ b :: R))[k]? = some (.string a) := by
  subst hk
  simp [strs, List.getElem?_append]
theorem perm_swap (P R : List ByteArray) (a b : ByteArray) : (P ++ b :: a :: R).Perm ((P ++ [a]) ++ b :: R) := by
  rw [List.append_assoc]
  exact List.Perm.append_left P (List.Perm.swap _ _ _)
theorem strs_snoc2 (l : List ByteArray) (x : ByteArray) : strs (l ++ [x]) = strs l ++ [.string x] := by simp [strs]
theorem own_put {w : World} {base g n cap : Nat} {e : TypeId} {xs : List Value} (h : w.ownsRow base e 1 (.slice (some ⟨g, 0, none⟩) n cap) n xs) (j : Nat) (hj : j < n) (u : Value) : (w.setCell ⟨g, j, none⟩ u).ownsRow base e 1 (.slice (some ⟨g, 0, none⟩) n cap) n (xs.set j u) := by
  obtain ⟨hl, h0 | ⟨g', cap', cur, e1, hg, hgg, h1, h2, h3, h4⟩⟩ := h
  · cases h0.1
  · cases e1
    rw [Nat.mul_one] at hl h3 h4
    have hgg' := heap_setCell_same w g j cur e u hgg
    refine ⟨by rw [List.length_set, hl, Nat.mul_one], .inr ⟨g, cap, _, rfl, hg, hgg', h1, h2, by simp [h3], ?_⟩⟩
    rw [Nat.mul_one, ← h4]
    simp [List.take_set]
set_option maxRecDepth 100000 in
set_option maxHeartbeats 4000000 in
theorem refSort_any (l : Value) (ss : List ByteArray) (B : Nat) (w : World) (hl : Reads w B l (strs ss)) (hB : B ≤ w.heap.size) (hn : ss.length ≤ 1000) (hz : ∀ s ∈ ss, s.size ≤ 1000000) :
    Calls Tryd.prog 32 #[l] w (SortPost ss w) := by
  obtain ⟨A, ca, rfl, hla, hma, hza, hra⟩ := hl
  simp only [strs_len] at *
  have HR := Lib.hid hra
  have HZ := Lib.hid hz
  unfold maxLen at *
  clear hra hza hz
  obtain ⟨j0, hj, hz0, hz1, hz2⟩ := info_parts infoStr
  have HJ := Lib.hid hj
  have HY0 := Lib.hid hz0
  have HY1 := Lib.hid hz1
  have HY2 := Lib.hid hz2
  clear hj hz0 hz1 hz2
  go_enter Tryd.func32, Tryd.ntmps32
  go_wp2
  go_loopw [4, 5] (fun ov i wr => ∃ (k : Nat) (o : List ByteArray), k ≤ ss.length ∧ i = .int .i64 k ∧ Hid (o.Perm (ss.take k)) ∧ Hid (Srt ordS o) ∧ Hid (∀ s ∈ ss.take k, okS s = true) ∧
      wr.ownsRow w.heap.size 9 1 ov k (strs o) ∧ Below w.heap.size w wr) (fun _ i _ => ss.length - (intOf i).toNat)
  case atStart => exact ⟨0, [], by omega, rfl, Lib.hid (List.Perm.refl _), Lib.hid List.Pairwise.nil, Lib.hid (fun _ h => by simp at h), World.ownsRow_nil _ _ _ _, Below.refl _ _⟩
  case round =>
    obtain ⟨k, o, hk, rfl, HPM, HST, HOK, hown, hb⟩ := hrel
    by_cases hlt : k < ss.length
    · obtain ⟨ad, rfl, hbl, hc⟩ := HR.out (by omega)
      have hcs := (hb.cell (by rw [add_block]; omega)).trans (hc k _ (strs_get ss k hlt))
      have hsz : (ss.getD k ⟨#[]⟩).size ≤ 1000000 := HZ.out _ (by simp [List.getD, hlt])
      have HTS := Lib.hid (texts_snoc ss k hlt)
      cases ho : okS (ss.getD k ⟨#[]⟩)
      · have HO := Lib.hid ho
        have HNO := Lib.hid (okAll_no ss k hlt ho)
        obtain ⟨s, hs⟩ : ∃ s, s = ss.getD k ⟨#[]⟩ := ⟨_, rfl⟩
        rw [← hs] at hcs hsz HO
        clear hc hbl ho hs
        go_wp2_with fail
        refine (refParse_no s _ hsz HO.out).mono ?_
        rintro e w1 ⟨rfl, hb1⟩
        go_wp2
        go_ret2
        exact SortPost.no HNO.out ⟨rfl, (below_step hb hb1 hb.size).alloc (Nat.le_trans hb.size hb1.size) _⟩
      · have HO := Lib.hid ho
        obtain ⟨s, hs⟩ : ∃ s, s = ss.getD k ⟨#[]⟩ := ⟨_, rfl⟩
        rw [← hs] at hcs hsz HO HTS
        clear ho hs
        obtain ⟨Ap, cap, rfl⟩ := own_form hown
        go_wp2_with fail
        refine (refParse_yes s _ hsz HO.out).mono ?_
        rintro e w1 ⟨v, t, rfl, hRv, htl, htz, hb1, ⟨Av, nv, capv, rfl, hav⟩⟩
        go_upto_region 8 with (fail)
        obtain ⟨w2, hw2, hg2, hb12, hz2, hb2⟩ := row_at wr w1 (.cells #[.slice Av nv capv, .string t] 30) hb1
        rw [← hw2]
        have hown2 := own_below hown hb2 (Nat.le_refl _)
        have hB2 := below_step hb hb2 hb.size
        have hadl : ad.block < wr.heap.size := by have := hb.size; omega
        have hcs2 := (hb2.cell (by rw [add_block]; exact hadl)).trans hcs
        have hzz : w.heap.size ≤ w2.heap.size := hB2.size
        clear hw2 hRv htl hg2 hb1 hb12 hz2 hown hav hb2 hcs hc hbl
        clear hadl
        go_wp2_with (at_builtin; refine wpList_append_own _ rfl _ _ 38 rfl w.heap.size 9 j0 (.string ⟨#[]⟩) 1 16 Tryd.underlying38 HJ.out HY0.out HY1.out HY2.out rfl (by decide) _ _ _ rfl (hown2.alloc _) ⟨w2.heap.size, 0, none⟩ 1 1 [.string s] rfl rfl ?c1 ?c2 ?c3 ?c4 ?c5 ?_)
        case c1 => exact cell_one_at _ _ _ _ (by first | rfl | simp)
        case c2 => exact fun u hu => by rw [List.mem_singleton] at hu; rw [hu]; rfl
        case c3 => unfold maxLen; omega
        case c4 => omega
        case c5 => simp; omega
        intro v' w3 hown3 hgrow3 _
        have hB3 := (hB2.alloc hzz (.cells #[.string s] 9)).grown hgrow3 (by simp; omega) (fun k e => (hown2.lt k e).1)
        rw [← strs_snoc2] at hown3
        have HALLT : Hid (∀ x ∈ o ++ [s], okS x = true ∧ x.size ≤ 1000000) := Lib.hid fun x hx => by
          rcases List.mem_append.1 hx with h | h
          · have hm := HPM.out.mem_iff.1 h
            exact ⟨HOK.out x hm, HZ.out x (List.mem_of_mem_take hm)⟩
          · rw [List.mem_singleton] at h; subst h; exact ⟨HO.out, hsz⟩
        have HPMN : Hid ((o ++ [s]).Perm (ss.take (k + 1))) := Lib.hid (by rw [HTS.out]; exact List.Perm.append_right _ HPM.out)
        have HOKN : Hid (∀ x ∈ ss.take (k + 1), okS x = true) := Lib.hid fun x hx => (HALLT.out x (HPMN.out.mem_iff.2 hx)).1
        have HBUB := Lib.hid (Bub.start (x := s) HST.out)
        have HOL : Hid (o.length = k) := Lib.hid (by have := HPM.out.length_eq; rw [List.length_take] at this; omega)
        rcases hown3.2 with ⟨_, e⟩ | ⟨g, cap3, cur, rfl, hg, hgg, _⟩
        · omega
        · clear hgrow3 hown2 hB2 hgg hcs2
          go_wp2
          go_loopw [8] (fun kk wr => ∃ (j : Nat) (T D : List ByteArray), kk = .int .i64 j ∧ j ≤ k ∧ Hid (T.length = j) ∧ Hid (D ≠ []) ∧ Hid (Bub T D) ∧ Hid ((T ++ D).Perm (o ++ [s])) ∧ wr.ownsRow w.heap.size 9 1 (.slice (some ⟨g, 0, none⟩) (k + 1) cap3) (k + 1) (strs (T ++ D)) ∧ Below w.heap.size w wr) (fun kk _ => (intOf kk).toNat)
          case atStart => exact ⟨k, o, [s], by go_num, Nat.le_refl _, HOL, Lib.hid (by simp), HBUB, Lib.hid (List.Perm.refl _), hown3, hB3⟩
          case round =>
            obtain ⟨j, T, D, rfl, hjk, HTL, HDN, HB, HP, hown, hbr⟩ := hrel
            rcases Nat.eq_zero_or_pos j with h0 | h0
            · have HT0 : Hid (T = []) := Lib.hid (List.eq_nil_of_length_eq_zero (by rw [HTL.out]; exact h0))
              have hj0 : j ≤ 0 := by omega
              clear h0
              go_wp2
              go_roundw
              case rel =>
                have hT := HT0.out
                have hp := HP.out
                have hbb := HB.out.d
                rw [hT, List.nil_append] at hp hown
                exact ⟨k + 1, D, by omega, by go_num, Lib.hid (hp.trans HPMN.out), Lib.hid hbb, HOKN, hown, hbr⟩
              case measure => simp [intOf]; omega
            · obtain ⟨q, rfl⟩ : ∃ q, j = q + 1 := ⟨j - 1, by omega⟩
              obtain ⟨P, a, rfl⟩ : ∃ P a, T = P ++ [a] := ⟨T.dropLast, T.getLast (fun e => by have := HTL.out; rw [e] at this; simp at this), (List.dropLast_concat_getLast _).symm⟩
              obtain ⟨b, R, rfl⟩ : ∃ b R, D = b :: R := List.exists_cons_of_ne_nil HDN.out
              have HPL : Hid (P.length = q) := Lib.hid (by have := HTL.out; simpa using this)
              have hma := HALLT.out a (HP.out.mem_iff.1 (by simp))
              have hmb := HALLT.out b (HP.out.mem_iff.1 (by simp))
              obtain ⟨hoa, hza⟩ := hma
              obtain ⟨hob, hzb⟩ := hmb
              have haddn : ∀ n, (⟨g, 0, none⟩ : Addr).add n = ⟨g, n, none⟩ := fun n => by unfold Addr.add; by_cases h : n = 0 <;> simp [h]
              have hcb := hown.cells (g := g) rfl (q + 1) _ (get_b P R a b q HPL.out)
              have hca := hown.cells (g := g) rfl q _ (get_a P R a b q HPL.out)
              rw [haddn] at hcb hca
              have hgl : g < wr.heap.size := block_lt_of_cell hca
              have hfb : wr.frozen? ⟨g, q + 1, none⟩ = false := World.ownsRow.frozenAt hown (q + 1)
              have hfa : wr.frozen? ⟨g, q, none⟩ = false := World.ownsRow.frozenAt hown q
              have HHF := Lib.hid (fun (w' : World) (h : KeepW wr wr.heap.size w') => own_below hown h.1 (Nat.le_refl _))
              have HKK := Lib.hid (fun (w' : World) (h : KeepW wr wr.heap.size w') => (⟨⟨(h.1.cell (p := ⟨g, q + 1, none⟩) hgl).trans hcb, (h.1.cell (p := ⟨g, q, none⟩) hgl).trans hca⟩, h⟩ : (w'.cell? ⟨g, q + 1, none⟩ = some (.string b) ∧ w'.cell? ⟨g, q, none⟩ = some (.string a)) ∧ KeepW wr wr.heap.size w'))
              obtain ⟨cc, hcc⟩ : ∃ cc, cc = ordS b a := ⟨_, rfl⟩
              have htx : ∀ w', KeepW wr wr.heap.size w' → Calls Tryd.prog 33 #[.string b, .string a] w' fun e w2 => e = .returned (.tuple #[.int .i64 cc, .bool true]) ∧ KeepW wr wr.heap.size w2 := fun w' h =>
                h.calls ((refTexts_any b a w' hzb hza).mono fun _ _ ⟨he, hb⟩ => ⟨by rw [he, ordS_cmp b a hob hoa, ← hcc]; unfold okST; rw [hob, hoa]; rfl, hb⟩)
              have HTX := Lib.hid htx
              have HCC := Lib.hid hcc
              have HK0 := KeepW.start (Nat.le_refl wr.heap.size)
              have hq1 : (((q + 1 : Nat)) : Int) = (q : Int) + 1 := by omega
              rw [hq1]
              have hw0 : IntKind.i64.wrap ((q : Int) + 1 - 1) = (q : Int) := by rw [show (q : Int) + 1 - 1 = (q : Int) by omega]; exact IntWalk.i64_in _ (by omega)
              have hw1 : IntKind.i64.wrap (q : Int) = (q : Int) := IntWalk.i64_in _ (by omega)
              have hn1 : ((q : Int) + 1).toNat = q + 1 := by omega
              have hn2 : (0 : Int) ≤ (q : Int) + 1 := by omega
              have hn3 : (q : Int) + 1 < (k : Int) + 1 := by omega
              have hn4 : (0 : Int) ≤ (q : Int) := by omega
              have hn5 : (q : Int) < (k : Int) + 1 := by omega
              clear hq1 htx hcc hoa hob haddn
              go_upto_region 12 with (fail)
              go_region_held3 (fun w' => (w'.cell? ⟨g, q + 1, none⟩ = some (.string b) ∧ w'.cell? ⟨g, q, none⟩ = some (.string a)) ∧ KeepW wr wr.heap.size w') (first | exact HKK.out _ (by assumption) | exact HKK.out _ (KeepW.drew (by assumption)) | go_keep) (first | (go_at_call 33; refine (HTX.out _ (by first | assumption | exact KeepW.drew (by assumption))).mono ?_; rintro e w4 ⟨rfl, hk4⟩))
              all_goals
                clear hw0 hw1 hn1 hcb hca
                have hown4 := HHF.out _ hk4
                have HB4 := Lib.hid (below_step hbr hk4.1 hbr.size)
                obtain ⟨⟨hxb, hxa⟩, _⟩ := HKK.out _ hk4
                by_cases hc0 : cc < 0
                · have HBN := Lib.hid (HB.out.swap (by rw [← HCC.out]; exact hc0))
                  have HPN := Lib.hid ((perm_swap P R a b).trans HP.out)
                  have hfb4 : w4.frozen? ⟨g, q + 1, none⟩ = false := World.ownsRow.frozenAt hown4 (q + 1)
                  have hfa4 : w4.frozen? ⟨g, q, none⟩ = false := World.ownsRow.frozenAt hown4 q
                  have hown5 := own_put (own_put hown4 (q + 1) (by omega) (.string a)) q (by omega) (.string b)
                  rw [set_two P R a b q HPL.out] at hown5
                  have hB5 := (HB4.out.setCell (p := ⟨g, q + 1, none⟩) hg (.string a)).setCell (p := ⟨g, q, none⟩) hg (.string b)
                  clear hown4 hown hbr hfb hfa
                  go_wp2
                  go_roundw
                  case rel => exact ⟨q, P, b :: a :: R, by go_num, by omega, HPL, Lib.hid (by simp), HBN, HPN, hown5, hB5⟩
                  case measure => simp [intOf]
                · have HBN := Lib.hid (HB.out.stay (by rw [← HCC.out]; omega))
                  have HPN : Hid ((P ++ a :: b :: R).Perm (o ++ [s])) := Lib.hid (by have := HP.out; rwa [List.append_assoc] at this)
                  rw [List.append_assoc] at hown4
                  have hB5 := HB4.out
                  clear hown hbr hfb hfa
                  go_wp2
                  go_roundw
                  case rel => exact ⟨q, P, a :: b :: R, by go_num, by omega, HPL, Lib.hid (by simp), HBN, HPN, hown4, hB5⟩
                  case measure => simp [intOf]
    · obtain rfl : k = ss.length := by omega
      have HTA : Hid (ss.take ss.length = ss) := Lib.hid List.take_length
      have HALL := Lib.hid (show okAll ss = true by
        unfold okAll
        rw [List.all_eq_true]
        intro s hs
        exact HOK.out s (by rw [HTA.out]; exact hs))
      clear hlt
      go_wp2
      go_ret2
      refine SortPost.yes HALL.out ⟨_, o, rfl, hown, by have := HPM.out; rwa [HTA.out] at this, ?_, hb⟩
      refine srt_cmp o (fun s hs => ?_) HST.out
      exact HOK.out s (HPM.out.mem_iff.1 hs)
end Go.Proofs.YtijepjoklmblhaaDoor
