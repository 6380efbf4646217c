/- Contract of version.Sort. -/
import Derived.Test.YtijepjoklmblhaaDoorVerO
import Derived.Shelf.SlSortCmp.NoneTotal

namespace Go.Proofs.YtijepjoklmblhaaDoor
open Go.RowKit Go.BigFrame
open Ver (prs cmpV BL)
open Go.Sort (PermIn SortedIn SWO putRow flatK putRowK HoldsK)

def SortNo (w : World) (e : Ending) (w' : World) : Prop := e = .returned (.tuple #[.slice none 0 0, .int .i64 130]) ∧ Below w.heap.size w w'
def SortYes (ss : List ByteArray) (w : World) (e : Ending) (w' : World) : Prop :=
  ∃ v out, e = .returned (.tuple #[v, .int .i64 0]) ∧ w'.ownsRow w.heap.size 9 1 v ss.length (strs out) ∧ out.Perm ss ∧ Ver.Srt cmpS out ∧ Below w.heap.size w w'
def okAll (ss : List ByteArray) : Bool := ss.all okS
theorem okAll_no (ss : List ByteArray) (k : Nat) (h : k < ss.length) (ho : okS (ss.getD k ⟨#[]⟩) = false) : okAll ss = false := by
  unfold okAll
  rw [List.all_eq_false]
  exact ⟨ss.getD k ⟨#[]⟩, by simp [List.getD, h], by rw [ho]; simp⟩
theorem ret_two {a b : Value} {k : Int} (h : a = b) : Ending.returned (.tuple #[a, .int .i64 k]) = .returned (.tuple #[b, .int .i64 k]) := by rw [h]
theorem texts_snoc (ss : List ByteArray) (k : Nat) (h : k < ss.length) : ss.take (k + 1) = ss.take k ++ [ss.getD k ⟨#[]⟩] := by
  rw [List.take_succ_eq_append_getElem h]; simp [List.getD, h]
theorem cells_three (w : World) (a b c : Value) (t : TypeId) (k : Nat) (hk : k = w.heap.size) : ∀ j u, [a, b, c][j]? = some u → (w.alloc (.cells #[a, b, c] t)).cell? ((⟨k, 0, none⟩ : Addr).add j) = some u := by
  subst hk
  exact fun j u hu => row_cells (heap_alloc_new w (.cells #[a, b, c] t)) j u (by simpa using hu)
theorem three_one (v : Value) (t s : ByteArray) (hv : v.oneCell' = true) : ∀ u ∈ [v, .string t, .string s], u.oneCell' = true := by
  intro u hu
  simp at hu
  rcases hu with rfl | rfl | rfl
  · exact hv
  · rfl
  · rfl
def SortPost (ss : List ByteArray) (w : World) (e : Ending) (w' : World) : Prop := if okAll ss = true then SortYes ss w e w' else SortNo w e w'
theorem SortPost.no {ss : List ByteArray} {w : World} {e : Ending} {w' : World} (h : okAll ss = false) (hp : SortNo w e w') : SortPost ss w e w' := by unfold SortPost; rw [if_neg (by rw [h]; simp)]; exact hp
theorem SortPost.yes {ss : List ByteArray} {w : World} {e : Ending} {w' : World} (h : okAll ss = true) (hp : SortYes ss w e w') : SortPost ss w e w' := by unfold SortPost; rw [if_pos h]; exact hp
theorem infoStr : (Tryd.prog.info? 9).map (fun i => (i.zero, i.size, i.bytes)) = some (some (.string ⟨#[]⟩), 1, 16) := by kernel_rfl
theorem sort_enters : ∀ args w, (callFunc 36 args).run Tryd.prog w = .ok (.enter 36 args) w := enters_of Tryd.func36 (by kernel_rfl) rfl
theorem sortFunc_any (w : World) (g cap : Nat) (its : List Item) (h : ∀ it ∈ its, it.OK w (some g)) [Inhabited (It w (some g))] (hH : HoldsK (encI w (some g)) 3 w g 0 (itArr w (some g) its h)) (hg : g < w.heap.size) (hn : its.length ≤ 1000) :
    Calls Tryd.prog 35 #[.slice (some ⟨g, 0, none⟩) its.length cap, .func (.func 36) #[] #[]] w fun e w' =>
      e = .returned (.tuple #[]) ∧ ∃ (d' : Array (It w (some g))) (n : Nat) (os : Array Obj), PermIn 0 (itArr w (some g) its h).size (itArr w (some g) its h) d' ∧ SortedIn (ltOf (cmpItem w (some g))) 0 (itArr w (some g) its h).size d' ∧ w' = sortWorldK (encI w (some g)) 3 w g 0 n d' os := by
  have hcon := AnyQ.slices_SortFunc Tryd.sortLays 3 Tryd.isAgg62 Tryd.sizeOf62 (encI w (some g)) (fun _ => rfl) (fun x v hv => by
      obtain ⟨A, n, c, e⟩ := x.2.slice
      exact three_one x.1.v x.1.tag x.1.text (by rw [e]; rfl) v hv) (cmpItem w (some g)) (sortedV_swo fun x : It w (some g) => (x.1.xs, x.1.tag.data.toList)) 36 #[] g 0 cap (itArr w (some g) its h) w sort_enters (cmp_lays w g _) hH hg (by rw [itArr_size]; omega)
  rw [itArr_size] at hcon ⊢
  exact hcon
set_option maxRecDepth 100000 in
set_option maxHeartbeats 2000000 in
theorem sort_any (l : Value) (ss : List ByteArray) (B : Nat) (w : World) (hl : Reads w B l (strs ss)) (hB : B ≤ w.heap.size) (hn : ss.length ≤ 1000) (hz : ∀ s ∈ ss, s.size ≤ 1000000) :
    Calls Tryd.prog 19 #[l] w (SortPost ss w) := by
  obtain ⟨A, ca, rfl, hla, hma, hza, hra⟩ := hl
  simp only [strs_len] at *
  have HR := Lib.hid hra
  have HZ := Lib.hid hz
  unfold maxLen at *
  clear hra hza hz
  obtain ⟨i0, hi, hz0, hz1, hz2⟩ := info_parts infoPair
  have HI := Lib.hid hi
  have HZ0 := Lib.hid hz0
  have HZ1 := Lib.hid hz1
  have HZ2 := Lib.hid hz2
  clear hi hz0 hz1 hz2
  obtain ⟨j0, hj, hz0, hz1, hz2⟩ := info_parts infoStr
  have HJ := Lib.hid hj
  have HY0 := Lib.hid hz0
  have HY1 := Lib.hid hz1
  have HY2 := Lib.hid hz2
  clear hj hz0 hz1 hz2
  go_enter Tryd.func19, Tryd.ntmps19
  go_wp2
  go_loopw [4, 14] (fun pv i wr => ∃ (k : Nat) (its : List Item), k ≤ ss.length ∧ i = .int .i64 k ∧ Hid (its.length = k) ∧ Hid (its.map Item.text = ss.take k) ∧ Hid (∀ it ∈ its, it.OK wr pv.ownBlock) ∧
      wr.ownsRow w.heap.size 62 3 pv k (encs its) ∧ Below w.heap.size w wr) (fun _ i _ => ss.length - (intOf i).toNat)
  case atStart => exact ⟨0, [], by omega, rfl, Lib.hid rfl, Lib.hid rfl, Lib.hid (fun _ h => by simp at h), World.ownsRow_nil _ _ _ _, Below.refl _ _⟩
  case round =>
    obtain ⟨k, its, hk, rfl, HKL, HT, HOK, hown, hb⟩ := hrel
    by_cases hlt : k < ss.length
    · obtain ⟨ad, rfl, hbl, hc⟩ := HR.out (by omega)
      have hcs := (hb.cell (by rw [add_block]; omega)).trans (hc k _ (strs_get ss k hlt))
      have hsz : (ss.getD k ⟨#[]⟩).size ≤ 1000000 := HZ.out _ (by simp [List.getD, hlt])
      have HTS := Lib.hid (texts_snoc ss k hlt)
      cases ho : okS (ss.getD k ⟨#[]⟩)
      · have HO := Lib.hid ho
        have HNO := Lib.hid (okAll_no ss k hlt ho)
        obtain ⟨s, hs⟩ : ∃ s, s = ss.getD k ⟨#[]⟩ := ⟨_, rfl⟩
        rw [← hs] at hcs hsz HO
        clear hc hbl ho hs
        go_wp2_with fail
        refine (parse_no s _ hsz HO.out).mono ?_
        rintro e w1 ⟨rfl, hb1⟩
        go_wp2
        go_ret2
        exact SortPost.no HNO.out ⟨rfl, (below_step hb hb1 hb.size).alloc (Nat.le_trans hb.size hb1.size) _⟩
      · have HO := Lib.hid ho
        obtain ⟨s, hs⟩ : ∃ s, s = ss.getD k ⟨#[]⟩ := ⟨_, rfl⟩
        rw [← hs] at hcs hsz HO HTS
        clear hc hbl ho hs
        obtain ⟨Ap, cap, rfl⟩ := own_form hown
        go_wp2_with fail
        refine (parse_yes s _ hsz HO.out).mono ?_
        rintro e w1 ⟨v, t, rfl, hRv, htl, htz, hb1, ⟨Av, nv, capv, rfl, hav⟩⟩
        go_upto_region 8 with (fail)
        obtain ⟨w2, hw2, hg2, hb12, hz2, hb2⟩ := row_at wr w1 (.cells #[.slice Av nv capv, .string t] 24) hb1
        rw [← hw2]
        have hOK2 : ∀ it ∈ its, it.OK w2 (Value.slice Ap k cap).ownBlock := fun it hit => (HOK.out it hit).below hb2
        have hnew : ({ v := .slice Av nv capv, xs := (verOf s).1, tag := t, text := s : Item }).OK w2 (Value.slice Ap k cap).ownBlock :=
          ⟨⟨_, _, _, rfl⟩, (hRv.below hb12).more hb12.size, fun g hg e => by
            have h1 := (hown.lt g e).2
            cases Av with
            | none => cases hg
            | some av => cases hg; have := (hav av rfl).1; omega, fun g hg => by
            cases Av with
            | none => cases hg
            | some av => cases hg; have := (hav av rfl).2; omega, HO.out, by rw [htl], htz⟩
        have hown2 := own_below hown hb2 (Nat.le_refl _)
        obtain ⟨hc0, hc1, _, _⟩ := cell_two hg2
        have hB2 := below_step hb hb2 hb.size
        have HOK2 := Lib.hid hOK2
        have HNEW := Lib.hid hnew
        have hz3 : w.heap.size ≤ w2.heap.size := hB2.size
        clear hw2 hRv htl hg2 hb1 hb12 hz2 hown hOK2 hnew hav hb2
        go_wp2_with (at_builtin; refine wpList_appK rfl _ _ 60 rfl w.heap.size 62 i0 _ 3 56 Tryd.underlying60 HI.out HZ0.out HZ1.out HZ2.out rfl (by decide) _ _ _ rfl (hown2.alloc _) ⟨w2.heap.size, 0, none⟩ 1 1 [.slice Av nv capv, .string t, .string s] rfl rfl ?c1 ?c2 ?c3 ?c4 ?c5 ?_)
        case c1 => exact cells_three _ _ _ _ _ _ rfl
        case c2 => exact three_one _ _ _ rfl
        case c3 => unfold maxLen; omega
        case c4 => omega
        case c5 => simp; omega
        intro v' w3 hown3 hgrow3 hmov3
        have hB3 := (hB2.alloc hz3 (.cells #[.slice Av nv capv, .string t, .string s] 62)).grown hgrow3 (by simp; omega) (fun k e => (hown2.lt k e).1)
        have hold : ∀ it ∈ its ++ [({ v := .slice Av nv capv, xs := (verOf s).1, tag := t, text := s : Item })], it.OK w3 v'.ownBlock := by
          have hal : ∀ it : Item, it.OK w2 (Value.slice Ap k cap).ownBlock → it.OK w3 v'.ownBlock := fun it h =>
            (h.below (w' := w2.alloc (.cells #[.slice Av nv capv, .string t, .string s] 62)) ((Below.refl _ _).alloc (Nat.le_refl _) _)).grown hgrow3 hmov3
          intro it hit
          rcases List.mem_append.1 hit with h | h
          · exact hal it (HOK2.out it h)
          · rw [List.mem_singleton] at h; subst h; exact hal _ HNEW.out
        have HOLD := Lib.hid hold
        rw [show encs its ++ [.slice Av nv capv, .string t, .string s] = encs (its ++ [({ v := .slice Av nv capv, xs := (verOf s).1, tag := t, text := s : Item })]) from (encs_snoc its ({ v := .slice Av nv capv, xs := (verOf s).1, tag := t, text := s : Item })).symm] at hown3
        have HTN := Lib.hid (show (its ++ [({ v := .slice Av nv capv, xs := (verOf s).1, tag := t, text := s : Item })]).map Item.text = ss.take (k + 1) by rw [HTS.out, List.map_append, HT.out]; rfl)
        have HKN := Lib.hid (show (its ++ [({ v := .slice Av nv capv, xs := (verOf s).1, tag := t, text := s : Item })]).length = k + 1 by rw [List.length_append, HKL.out]; rfl)
        clear hgrow3 hmov3 hold hown2 hB2
        go_wp2
        go_roundw
        case rel => exact ⟨k + 1, _, by omega, by go_num, HKN, HTN, HOLD, hown3, hB3⟩
        case measure => simp [intOf]; omega
    · obtain rfl : k = ss.length := by omega
      have HTS : Hid (its.map Item.text = ss) := Lib.hid (by rw [HT.out, List.take_length])
      have HALL := Lib.hid (show okAll ss = true by
        unfold okAll
        rw [← HTS.out, List.all_map, List.all_eq_true]
        exact fun it hit => (HOK.out it hit).ok)
      clear hlt
      rcases Nat.eq_zero_or_pos ss.length with h0 | hpos
      · have HS0 : Hid (ss = []) := Lib.hid (List.eq_nil_of_length_eq_zero h0)
        obtain ⟨Ap, cap, rfl⟩ := own_form hown
        have hk0 : ss.length ≤ 0 := by omega
        have hcon := fun w => AnyF.slices_SortFunc_none Tryd.sortLays Ap cap (.func (.func 36) #[] #[]) w
        have HC : Hid (∀ w : World, Calls Tryd.prog 35 #[.slice Ap ss.length cap, .func (.func 36) #[] #[]] w fun e w' => e = .returned (.tuple #[]) ∧ w' = w) := Lib.hid (by rw [h0]; exact hcon)
        clear hcon h0
        go_wp2_with (go_at_call 35; refine (HC.out _).mono ?_; rintro e w4 ⟨rfl, rfl⟩)
        go_loop [9, 37] (fun sv i => i = .int .i64 0 ∧ sv = .slice none 0 0) (fun _ _ => 0)
        case atStart => exact ⟨rfl, rfl⟩
        case round =>
          obtain ⟨rfl, rfl⟩ := hrel
          go_wp2
          go_ret2
          refine SortPost.yes HALL.out ⟨_, [], rfl, ?_, by rw [HS0.out], List.Pairwise.nil, hb⟩
          rw [HS0.out]
          exact World.ownsRow_nil _ _ _ _
      · rcases hown.2 with ⟨_, e⟩ | ⟨g, cap, cur, rfl, hg, hgg, hnc, hcm, hcs, htake⟩
        · omega
        · have hne : 0 < its.length := by rw [HKL.out]; exact hpos
          haveI : Inhabited (It wr (some g)) := ⟨⟨its[0], HOK.out _ (List.getElem_mem hne)⟩⟩
          have hH := row_holds (fun it hit => HOK.out it hit) hgg HKL.out htake
          have hcon := sortFunc_any wr g cap its (fun it hit => HOK.out it hit) hH (block_lt hgg) (by rw [HKL.out]; exact hn)
          have hsize := itArr_size wr (some g) its (fun it hit => HOK.out it hit)
          rw [HKL.out] at hcon
          have HC := Lib.hid hcon
          have HH := Lib.hid hH
          have HSZ := Lib.hid hsize
          have hgl := block_lt hgg
          clear hcon hH hsize hown hgg hnc hcm hcs htake hne
          go_upto_region 11 with (go_at_call 35; refine HC.out.mono ?_; rintro e w4 ⟨rfl, d', n, os, hp, hs, rfl⟩)
          have hbW : Below w.heap.size w (sortWorldK (encI wr (some g)) 3 wr g 0 n d' os) := sort_below hb hg hb.size
          have hHW := sort_holds (m := n) (os := os) HH.out hp.1 hgl
          have hperm := perm_texts _ hp
          rw [HTS.out] at hperm
          have hds : d'.size = ss.length := by rw [hp.1, HSZ.out, HKL.out]
          have hsrt := sorted_texts (by rw [hp.1]) hs
          generalize sortWorldK (encI wr (some g)) 3 wr g 0 n d' os = W4 at *
          have hz4 : g < W4.heap.size := by
            have := (hHW 0 (by rw [Sort.size_flatK]; omega)).1
            exact block_lt_of_cell this
          obtain ⟨out, hout⟩ : ∃ out, out = d'.toList.map (fun x => x.1.text) := ⟨_, rfl⟩
          rw [← hout] at hperm hsrt
          have HP := Lib.hid hperm
          have HS := Lib.hid hsrt
          have HHW := Lib.hid hHW
          have HDS := Lib.hid hds
          have HOUT := Lib.hid hout
          have hol : out.length = ss.length := by rw [hout, List.length_map, Array.length_toList]; exact hds
          have HOL := Lib.hid hol
          clear hperm hsrt hHW hds hout hp hs HC HH HSZ hol
          go_wp2
          go_loopw [9, 37] (fun sv i wr2 => ∃ k : Nat, k ≤ ss.length ∧ i = .int .i64 k ∧ wr2.ownsRow W4.heap.size 9 1 sv k (strs (out.take k)) ∧ Below W4.heap.size W4 wr2) (fun _ i _ => ss.length - (intOf i).toNat)
          case atStart => exact ⟨0, by omega, rfl, World.ownsRow_nil _ _ _ _, Below.refl _ _⟩
          case round =>
            obtain ⟨k, hk, rfl, hown, hbr⟩ := hrel
            obtain ⟨As, caps, rfl⟩ := own_form hown
            by_cases hlt : k < ss.length
            · obtain ⟨h1, h2, h3⟩ := holds_item HHW.out k (by rw [HDS.out]; exact hlt)
              have hc1 := (hbr.cell hz4).trans h1
              have hc2 := (hbr.cell hz4).trans h2
              have hc3 := (hbr.cell hz4).trans h3
              obtain ⟨A1, n1, c1, hv⟩ := d'[k]!.2.slice
              rw [hv] at hc1
              obtain ⟨tx, htx⟩ : ∃ tx, tx = d'[k]!.1.text := ⟨_, rfl⟩
              obtain ⟨tg, htg⟩ : ∃ tg, tg = d'[k]!.1.tag := ⟨_, rfl⟩
              rw [← htg] at hc2
              rw [← htx] at hc3
              have HTK := Lib.hid (show strs (out.take (k + 1)) = strs (out.take k) ++ [.string tx] by
                have hko : k < out.length := by rw [HOL.out]; exact hlt
                have e : out[k] = tx := by
                  have hkd : k < d'.size := by rw [HDS.out]; exact hlt
                  rw [htx, getElem!_pos d' k hkd]
                  simp only [HOUT.out, List.getElem_map, Array.getElem_toList]
                rw [List.take_succ_eq_append_getElem hko, e]
                simp [strs])
              clear h1 h2 h3 hv htx htg
              go_wp2_with (at_builtin; refine wpList_append_own _ rfl _ _ 38 rfl W4.heap.size 9 j0 (.string ⟨#[]⟩) 1 16 Tryd.underlying38 HJ.out HY0.out HY1.out HY2.out rfl (by decide) _ _ _ rfl ((hown.alloc _).alloc _) ⟨wr.heap.size + 1, 0, none⟩ 1 1 [.string tx] rfl rfl ?c1 ?c2 ?c3 ?c4 ?c5 ?_)
              case c1 => exact cell_one_at _ _ _ _ (by simp)
              case c2 => exact fun u hu => by rw [List.mem_singleton] at hu; rw [hu]; rfl
              case c3 => unfold maxLen; omega
              case c4 => omega
              case c5 => have := hbr.size; simp; omega
              intro v' w5 hown5 hgrow5 _
              have hz5 := hbr.size
              have hbr5 := ((hbr.alloc hz5 (.cells #[.slice A1 n1 c1, .string tg, .string tx] 62)).alloc (by simp; omega) (.cells #[.string tx] 9)).grown hgrow5 (by simp; omega) (fun k e => (hown.lt k e).1)
              rw [← HTK.out] at hown5
              clear hgrow5 hown hbr
              go_wp2
              go_roundw
              case rel => exact ⟨k + 1, by omega, by go_num, hown5, hbr5⟩
              case measure => simp [intOf]; omega
            · obtain rfl : k = ss.length := by omega
              have HTA := Lib.hid (show strs (out.take ss.length) = strs out by rw [← HOL.out, List.take_length])
              go_wp2
              go_ret2
              refine SortPost.yes HALL.out ⟨_, out, rfl, ?_, HP.out, HS.out, below_step hbW hbr hbW.size⟩
              rw [← HTA.out]
              exact own_mono hown hbW.size
end Go.Proofs.YtijepjoklmblhaaDoor
