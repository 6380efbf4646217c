/- files: the iterator over all nodes, walked. -/
import Derived.Test.YtmcafiihicanfaaDoorFilB
set_option linter.unusedVariables false
set_option linter.unusedSimpArgs false
namespace Go.Proofs.YtmcafiihicanfaaDoor
open Go Go.RowKit Go.BigFrame
open Fil (Es Nd Sp)
attribute [local go_sem] Oper.semAt_some

set_option maxRecDepth 100000 in
set_option maxHeartbeats 4000000 in
theorem nodes_stops (n : Nat) (hn : 1 ≤ n) (w : World) (B bn : Nat) (hB : B ≤ w.heap.size) (hbn : bn < w.heap.size) (nd : Nd) (hnd : NdC w B ⟨bn, 0, none⟩ nd) (hN : nd.flat.length ≤ 1000000000) :
    SeqStopsP itE Fence.wide n Tryd.prog 51 #[.pointer (some ⟨bn, 0, none⟩)] (fun x : NdX w B bn => #[.agg #[.int .i64 (x.1.dep : Int), .string x.1.nm, .pointer (some x.1.p)]]) (KpN B bn)
      (fun xs => xs.map (·.1.sp) = nd.flat) (fun pre => pre.map (·.1.sp) <+: nd.flat) nd.flat.length w := by
  intro l J Jx Jp W hW hJ hJx hY h0
  have hro : Fence.wide.round = none := rfl
  obtain ⟨x0, hx0⟩ : ∃ x0 : NdX w B bn, x0.1 = ⟨0, ⟨#[]⟩, ⟨bn, 0, none⟩, nd⟩ := ⟨⟨_, .inr rfl, hnd, Nat.zero_le _⟩, rfl⟩
  have hsp : x0.1.sp = ⟨0, ⟨#[]⟩, nd⟩ := by rw [hx0]; rfl
  have hlen : nd.flat.length = nd.es.count + 1 := by rw [Fil.Nd.flat_len]; unfold Fil.Nd.count; omega
  obtain ⟨fn, tmps, assign, body, hy, hR⟩ := hY [] x0 W h0 (by simp [hlen]) ⟨nd.es.flat 1, by simp [hsp, Fil.Nd.flat]⟩
  dsimp only at hy
  rw [hx0] at hy
  dsimp only at hy
  rw [show ((0 : Nat) : Int) = 0 from rfl] at hy
  refine callsIn_of_wp Tryd.func51 rfl trivial ?_ hro
  simp only [Tryd.ntmps51, List.size_toArray, List.length_cons, List.length_nil, Nat.reduceAdd, Nat.reduceSub, Array.replicate_succ, Array.replicate_zero, List.push_toArray, List.append_toArray, List.nil_append, List.cons_append]
  gi_wp2
  refine hR.mono ?_
  have hpre : [x0].map (fun x => x.1.sp) <+: nd.flat := ⟨nd.es.flat 1, by simp [hsp, Fil.Nd.flat]⟩
  rintro e W1 (⟨rfl, hJ1, hk1⟩ | ⟨rfl, hx1⟩ | ⟨ch, rfl, hp1⟩)
  rotate_left
  · gi_wp2
    refine bodyPost_ret (results_none rfl _ _ _) rfl ?_
    exact .inl ⟨⟨_, rfl⟩, .inr ⟨[x0], hpre, hx1⟩⟩
  · exact ⟨rfl, .inr ⟨ch, [x0], rfl, hpre, hp1⟩⟩
  have hnk1 : NkW B bn w W1 := (NkW.of_below hW hB hbn).trans hk1.nk
  obtain ⟨_, _, ⟨ev, hcev, hev⟩, _⟩ := hnd
  have hc2 : W1.cell? ⟨bn, 2, none⟩ = some ev := (hnk1.cell (p := ⟨bn, 2, none⟩) (.inr rfl)).trans hcev
  have HEV := Lib.hid hev
  obtain ⟨A0, c0, rfl, _, _⟩ := hev.form
  clear hy hR
  have hbz : W.heap.size ≤ W1.heap.size := hk1.nk.below.size
  have HST := Lib.hid (show ∃ m, WayRel w B bn W.heap.size nd J m (.slice (some ⟨W1.heap.size, 0, none⟩) 1 1) (W1.alloc (.cells #[.slice A0 nd.es.len c0] 24)) from
    ⟨_, [x0], [nd.es], [.slice A0 nd.es.len c0], rfl, by simp [hsp, remS, Fil.Nd.flat], by simp, ⟨rfl, .inr ⟨W1.heap.size, 1, #[.slice A0 nd.es.len c0], rfl, hbz, heap_alloc_new _ _, Nat.le_refl _, by decide, rfl, rfl⟩⟩, ⟨HEV.out, trivial⟩,
      hnk1.grown hB hbn (World.grownBy_alloc W1 _ none) (fun k e => by cases e), by simp; omega, hJ _ _ _ none hJ1 (World.grownBy_alloc W1 _ none) (fun r e => by cases e)⟩)
  clear HEV hJ1 hk1 hnk1 hcev hpre
  have HN0 := Lib.hid hlen
  clear hlen hsp hx0 x0 h0 hbz
  gi_wp2
  clear hc2
  gi_loopw [3] (fun v wr => ∃ m, WayRel w B bn W.heap.size nd J m v wr) (fun v wr => leastN (fun m => WayRel w B bn W.heap.size nd J m v wr))
  case atStart => exact HST.out
  case round =>
    clear HST
    obtain ⟨pre, st, vs, hm, hpre, hsl, hown, hst, hnk, hbs, hJr⟩ := least_spec hrel
    have HM := Lib.hid hm
    clear hm hrel
    cases st with
    | nil =>
      cases vs with
      | cons _ _ => exact hst.elim
      | nil =>
        obtain ⟨A, c, rfl⟩ := own_form hown
        gi_wp2
        go_end0
        exact .inl ⟨⟨_, rfl⟩, .inl ⟨pre, by simpa [remS] using hpre, hJr⟩⟩
    | cons e st =>
      cases vs with
      | nil => exact hst.elim
      | cons u vs =>
        obtain ⟨hu, hst⟩ := hst
        have hown' := hown
        rw [List.reverse_cons, List.length_cons] at hown'
        obtain ⟨g, cap, rfl, hbg, hgl, hkc, hcm, hcell, hfr, ⟨cs, hcs⟩, hcut, hset⟩ := own_last hown' (by simp)
        obtain ⟨Au, cu, rfl, hcu, hcum⟩ := hu.form
        have HST := Lib.hid hst
        have HOW := Lib.hid (And.intro hcut (And.intro hset hcs))
        have HNK := Lib.hid hnk
        have HPR := Lib.hid hpre
        have HSP := Lib.hid hsl
        have HJR := Lib.hid hJr
        have HG := Lib.hid (And.intro hbg (And.intro hgl hbs))
        clear hsl hst hcut hset hcs hnk hpre hJr hbs hbg hgl hown hown'
        have HVL := Lib.hid (show vs.reverse.length = vs.length by simp)
        have HSL := Lib.hid (show vs.length = st.length from HST.out.len)
        obtain ⟨k, hk⟩ : ∃ k, k = vs.length := ⟨_, rfl⟩
        have HK := Lib.hid hk
        rw [← hk] at hkc hcell hfr HOW HM
        rw [← hk]
        clear hk
        unfold maxLen at hcm
        have hw1 : IntKind.i64.wrap ((k : Int) + 1 - 1) = (k : Int) := by rw [show (k : Int) + 1 - 1 = (k : Int) by omega]; exact IntWalk.i64_in _ (by omega)
        cases e with
        | nil =>
          rw [show Es.nil.len = 0 from rfl] at hcell
          have hrel2 : WayRel w B bn W.heap.size nd J (stackM st) (.slice (some ⟨g, 0, none⟩) k cap) wr :=
            ⟨pre, st, vs, rfl, by simpa [remS, Es.flat] using HPR.out, by have := HSP.out; simp at this; omega, by rw [← HK.out]; exact HOW.out.1, HST.out, HNK.out, HG.out.2.2, HJR.out⟩
          have HR2 := Lib.hid hrel2
          clear hrel2
          gi_wp2
          exact ⟨⟨_, HR2.out⟩, by rw [HM.out]; exact Nat.lt_of_le_of_lt (least_le HR2.out) (by simp [stackM])⟩
        | cons nm kd d s nx =>
          rw [show (Es.cons nm kd d s nx).len = nx.len + 1 from rfl] at hcell hu hcu
          obtain ⟨_, a, rfl, hab, ha0, hnmz, ⟨_, hq2, hq3, ⟨ev2, hq4, hes⟩, hq5, hq6⟩, htail, hcu1, hcu2⟩ := hu.head
          obtain ⟨x, hx⟩ : ∃ x : NdX w B bn, x.1 = ⟨k + 1, nm, a.add 1, ⟨kd, d, s⟩⟩ := ⟨⟨_, .inl (by rw [addB]; exact hab), ⟨hq2, hq3, ⟨_, hq4, hes⟩, hq5, hq6⟩, hnmz⟩, rfl⟩
          obtain ⟨A2, c2, rfl, _, _⟩ := hes.form
          have hn0 : wr.cell? a = some (.string nm) := (HNK.out.cell (.inl hab)).trans ha0
          have HES := Lib.hid (And.intro hes (And.intro hab hq4))
          have HTL := Lib.hid htail
          have HU := Lib.hid hu
          have HNM := Lib.hid (And.intro ha0 hq4)
          clear ha0 hnmz hq2 hq3 hq4 hes hq5 hq6 htail hu
          gi_wp2
          · obtain ⟨T, hT⟩ : ∃ T, T = Value.slice (some a) nx.len 0 := ⟨_, rfl⟩
            have HT := Lib.hid (show EsAt w B T nx by rw [hT]; exact ⟨some a, 0, rfl, by omega, by decide, (fun e => by cases e), fun h => by omega⟩)
            rw [← hT]
            clear hT
            have hWs : w.heap.size ≤ W.heap.size := hW.size
            have hnkS : NkW B bn w (wr.setCell ⟨g, k, none⟩ T) := HNK.out.grown hB hbn (grown_cell wr g k T) (fun j e => by cases e; have := HG.out.1; omega)
            have HJS := hJ _ _ _ (some g) HJR.out (grown_cell wr g k T) (fun r e => by cases e; exact ⟨HG.out.1, _, HOW.out.2.2, rfl⟩)
            have HJD := hJ _ _ (wr.setCell ⟨g, k, none⟩ T).drew none HJS ⟨rfl, rfl, rfl, Nat.le_refl _, fun _ _ _ => rfl⟩ (fun r e => by cases e)
            have hlen2 : pre.length < nd.flat.length := by
              have := congrArg List.length HPR.out
              simp [remS, Es.flat] at this
              omega
            have hpx : (pre ++ [x]).map (fun x => x.1.sp) <+: nd.flat := ⟨s.flat (st.length + 1 + 1) ++ nx.flat (st.length + 1) ++ remS st, by
              rw [← HPR.out, List.map_append, List.append_assoc]
              congr 1
              simp only [List.map_cons, List.map_nil, hx, remS, Es.flat, List.cons_append, List.nil_append, List.append_assoc]
              rw [HK.out, HSL.out]
              rfl⟩
            obtain ⟨fn2, tm2, as2, bo2, hy, hR⟩ := hY pre x _ HJD hlen2 hpx
            rw [hx] at hy
            dsimp only at hy
            rw [show ((k + 1 : Nat) : Int) = (k : Int) + 1 by omega, show a.add 1 = ⟨a.block, a.off + 1, none⟩ from rfl] at hy
            have hn1 : (wr.setCell ⟨g, k, none⟩ T).cell? a = some (.string nm) := (hnkS.cell (.inl HES.out.2.1)).trans HNM.out.1
            have HNS := Lib.hid hnkS
            have HOS := Lib.hid (HOW.out.2.1 T)
            have hszS : (wr.setCell ⟨g, k, none⟩ T).heap.size = wr.heap.size := by show (wr.heap.modify _ _).size = _; rw [Array.size_modify]
            have HZS := Lib.hid (show W.heap.size ≤ (wr.setCell ⟨g, k, none⟩ T).heap.size by rw [hszS]; exact HG.out.2.2)
            generalize hwS : wr.setCell ⟨g, k, none⟩ T = wS at *
            clear hwS hszS HJS HJD hnkS hWs hlen2 hn0 hcell hfr
            have hmo : Tryd.prog.follows .mixedOrders = true := by kernel_rfl
            have hR3 := hR.mono (R' := fun e W' => (∃ b : Bool, e = .returned (.bool b) ∧ ((b = true ∧ J (pre ++ [x]) W' ∧ KpN B bn wS.drew W') ∨ (b = false ∧ Jx (pre ++ [x]) W'))) ∨ ∃ ch, e = .panicked ch ∧ Jp ch (pre ++ [x]) W') (fun e W' h => by
              rcases h with ⟨e1, h1, h2⟩ | ⟨e1, h1⟩ | h
              · exact .inl ⟨true, e1, .inl ⟨rfl, h1, h2⟩⟩
              · exact .inl ⟨false, e1, .inr ⟨rfl, h1⟩⟩
              · exact .inr h)
            clear hR
            gi_region_with_o (go_simp; refine hR3.mono ?_; rintro e W2 (⟨b, rfl, h2⟩ | ⟨ch, rfl, hp2⟩); rotate_left; exact ⟨rfl, .inr ⟨ch, pre ++ [x], rfl, hpx, hp2⟩⟩)
            all_goals
              have HNS2 := Lib.hid (show NkW B bn w wS.drew from ⟨HNS.out.below.drew, HNS.out.box⟩)
              have HOS2 := Lib.hid (show wS.drew.ownsRow W.heap.size 24 1 (.slice (some ⟨g, 0, none⟩) (k + 1) cap) (k + 1) (vs.reverse ++ [T]) from HOS.out)
              rcases h2 with ⟨rfl, hJ2, hk2⟩ | ⟨rfl, hx2⟩
              rotate_left
              · gi_wp2
                refine bodyPost_ret (results_none rfl _ _ _) rfl ?_
                exact .inl ⟨⟨_, rfl⟩, .inr ⟨pre ++ [x], hpx, hx2⟩⟩
              have HN2 := Lib.hid (HNS2.out.trans hk2.nk)
              have HO2 := Lib.hid (hk2.own HOS2.out)
              have hz2 : W.heap.size ≤ W2.heap.size := Nat.le_trans HZS.out hk2.nk.below.size
              have hn3 : W2.cell? ⟨a.block, a.off + 1 + 2, none⟩ = some (.slice A2 s.len c2) := (HN2.out.cell (p := ⟨a.block, a.off + 1 + 2, none⟩) (.inl HES.out.2.1)).trans HNM.out.2
              have hkN : k + 1 ≤ 1000000000 := by have := HSP.out; have := hpx.length_le; simp at this; simp at *; have := HK.out; have := HSL.out; omega
              have HJ2 := Lib.hid hJ2
              have HPX := Lib.hid hpx
              obtain ⟨i0, hi0, hz0, hz1, hzb⟩ := info_parts infoEs
              clear hJ2 hk2 hpx hn1 hy hR3 HNS HOS HNS2 HOS2 HZS HN0
              gi_wp2_with (gi_at_builtin; refine wpListIn_append_own _ rfl _ _ 76 rfl W.heap.size 24 i0 (.slice none 0 0) 1 24 Tryd.underlying76 hi0 hz0 hz1 hzb rfl (by decide) _ _ _ rfl (HO2.out.alloc _) ⟨W2.heap.size, 0, none⟩ 1 1 [.slice A2 s.len c2] rfl rfl (cell_one_new _ _ _) (by simp [Value.oneCell']) (by unfold maxLen; omega) (by omega) (by simp; omega) ?_; intro v' w4 hown4 hgrow _)
              obtain ⟨cs2, hcs2⟩ := own_blk HO2.out
              have hrel2 : WayRel w B bn W.heap.size nd J (stackM (s :: nx :: st)) v' w4 := by
                refine ⟨pre ++ [x], s :: nx :: st, .slice A2 s.len c2 :: T :: vs, rfl, ?_, by have := HSP.out; simp at this ⊢; omega, ?_, ⟨HES.out.1, HT.out, HST.out⟩, ?_, ?_, ?_⟩
                · rw [← HPR.out, List.map_append, List.append_assoc]
                  congr 1
                  simp only [List.map_cons, List.map_nil, hx, remS, Es.flat, List.cons_append, List.nil_append, List.append_assoc, List.length_cons]
                  rw [HK.out, HSL.out]
                  rfl
                · have h4 := hown4
                  rw [HK.out] at h4
                  simpa using h4
                · exact (HN2.out.grown hB hbn (World.grownBy_alloc W2 _ none) (fun j e => by cases e)).grown hB hbn hgrow (fun j e => by cases e; exact Nat.le_trans hW.size HG.out.1)
                · have := hgrow.size; simp at this; omega
                · exact hJ _ _ _ _ (hJ _ _ _ none HJ2.out (World.grownBy_alloc W2 _ none) (fun r e => by cases e)) hgrow (fun r e => by cases e; exact ⟨HG.out.1, _, (old_block _ _ _ (block_lt hcs2)).trans hcs2, rfl⟩)
              exact ⟨⟨_, hrel2⟩, by rw [HM.out]; exact Nat.lt_of_le_of_lt (least_le hrel2) (by simp [stackM, Es.count]; omega)⟩
          · obtain ⟨T, hT⟩ : ∃ T, T = Value.slice (some ⟨a.block, a.off + 4, none⟩) nx.len (cu - 1) := ⟨_, rfl⟩
            have HT := Lib.hid (show EsAt w B T nx by rw [hT]; exact HTL.out)
            rw [← hT]
            clear hT
            have hWs : w.heap.size ≤ W.heap.size := hW.size
            have hnkS : NkW B bn w (wr.setCell ⟨g, k, none⟩ T) := HNK.out.grown hB hbn (grown_cell wr g k T) (fun j e => by cases e; have := HG.out.1; omega)
            have HJS := hJ _ _ _ (some g) HJR.out (grown_cell wr g k T) (fun r e => by cases e; exact ⟨HG.out.1, _, HOW.out.2.2, rfl⟩)
            have HJD := hJ _ _ (wr.setCell ⟨g, k, none⟩ T).drew none HJS ⟨rfl, rfl, rfl, Nat.le_refl _, fun _ _ _ => rfl⟩ (fun r e => by cases e)
            have hlen2 : pre.length < nd.flat.length := by
              have := congrArg List.length HPR.out
              simp [remS, Es.flat] at this
              omega
            have hpx : (pre ++ [x]).map (fun x => x.1.sp) <+: nd.flat := ⟨s.flat (st.length + 1 + 1) ++ nx.flat (st.length + 1) ++ remS st, by
              rw [← HPR.out, List.map_append, List.append_assoc]
              congr 1
              simp only [List.map_cons, List.map_nil, hx, remS, Es.flat, List.cons_append, List.nil_append, List.append_assoc]
              rw [HK.out, HSL.out]
              rfl⟩
            obtain ⟨fn2, tm2, as2, bo2, hy, hR⟩ := hY pre x _ HJD hlen2 hpx
            rw [hx] at hy
            dsimp only at hy
            rw [show ((k + 1 : Nat) : Int) = (k : Int) + 1 by omega, show a.add 1 = ⟨a.block, a.off + 1, none⟩ from rfl] at hy
            have hn1 : (wr.setCell ⟨g, k, none⟩ T).cell? a = some (.string nm) := (hnkS.cell (.inl HES.out.2.1)).trans HNM.out.1
            have HNS := Lib.hid hnkS
            have HOS := Lib.hid (HOW.out.2.1 T)
            have hszS : (wr.setCell ⟨g, k, none⟩ T).heap.size = wr.heap.size := by show (wr.heap.modify _ _).size = _; rw [Array.size_modify]
            have HZS := Lib.hid (show W.heap.size ≤ (wr.setCell ⟨g, k, none⟩ T).heap.size by rw [hszS]; exact HG.out.2.2)
            generalize hwS : wr.setCell ⟨g, k, none⟩ T = wS at *
            clear hwS hszS HJS HJD hnkS hWs hlen2 hn0 hcell hfr
            have hmo : Tryd.prog.follows .mixedOrders = true := by kernel_rfl
            have hR3 := hR.mono (R' := fun e W' => (∃ b : Bool, e = .returned (.bool b) ∧ ((b = true ∧ J (pre ++ [x]) W' ∧ KpN B bn wS.drew W') ∨ (b = false ∧ Jx (pre ++ [x]) W'))) ∨ ∃ ch, e = .panicked ch ∧ Jp ch (pre ++ [x]) W') (fun e W' h => by
              rcases h with ⟨e1, h1, h2⟩ | ⟨e1, h1⟩ | h
              · exact .inl ⟨true, e1, .inl ⟨rfl, h1, h2⟩⟩
              · exact .inl ⟨false, e1, .inr ⟨rfl, h1⟩⟩
              · exact .inr h)
            clear hR
            gi_region_with_o (go_simp; refine hR3.mono ?_; rintro e W2 (⟨b, rfl, h2⟩ | ⟨ch, rfl, hp2⟩); rotate_left; exact ⟨rfl, .inr ⟨ch, pre ++ [x], rfl, hpx, hp2⟩⟩)
            all_goals
              have HNS2 := Lib.hid (show NkW B bn w wS.drew from ⟨HNS.out.below.drew, HNS.out.box⟩)
              have HOS2 := Lib.hid (show wS.drew.ownsRow W.heap.size 24 1 (.slice (some ⟨g, 0, none⟩) (k + 1) cap) (k + 1) (vs.reverse ++ [T]) from HOS.out)
              rcases h2 with ⟨rfl, hJ2, hk2⟩ | ⟨rfl, hx2⟩
              rotate_left
              · gi_wp2
                refine bodyPost_ret (results_none rfl _ _ _) rfl ?_
                exact .inl ⟨⟨_, rfl⟩, .inr ⟨pre ++ [x], hpx, hx2⟩⟩
              have HN2 := Lib.hid (HNS2.out.trans hk2.nk)
              have HO2 := Lib.hid (hk2.own HOS2.out)
              have hz2 : W.heap.size ≤ W2.heap.size := Nat.le_trans HZS.out hk2.nk.below.size
              have hn3 : W2.cell? ⟨a.block, a.off + 1 + 2, none⟩ = some (.slice A2 s.len c2) := (HN2.out.cell (p := ⟨a.block, a.off + 1 + 2, none⟩) (.inl HES.out.2.1)).trans HNM.out.2
              have hkN : k + 1 ≤ 1000000000 := by have := HSP.out; have := hpx.length_le; simp at this; simp at *; have := HK.out; have := HSL.out; omega
              have HJ2 := Lib.hid hJ2
              have HPX := Lib.hid hpx
              obtain ⟨i0, hi0, hz0, hz1, hzb⟩ := info_parts infoEs
              clear hJ2 hk2 hpx hn1 hy hR3 HNS HOS HNS2 HOS2 HZS HN0
              gi_wp2_with (gi_at_builtin; refine wpListIn_append_own _ rfl _ _ 76 rfl W.heap.size 24 i0 (.slice none 0 0) 1 24 Tryd.underlying76 hi0 hz0 hz1 hzb rfl (by decide) _ _ _ rfl (HO2.out.alloc _) ⟨W2.heap.size, 0, none⟩ 1 1 [.slice A2 s.len c2] rfl rfl (cell_one_new _ _ _) (by simp [Value.oneCell']) (by unfold maxLen; omega) (by omega) (by simp; omega) ?_; intro v' w4 hown4 hgrow _)
              obtain ⟨cs2, hcs2⟩ := own_blk HO2.out
              have hrel2 : WayRel w B bn W.heap.size nd J (stackM (s :: nx :: st)) v' w4 := by
                refine ⟨pre ++ [x], s :: nx :: st, .slice A2 s.len c2 :: T :: vs, rfl, ?_, by have := HSP.out; simp at this ⊢; omega, ?_, ⟨HES.out.1, HT.out, HST.out⟩, ?_, ?_, ?_⟩
                · rw [← HPR.out, List.map_append, List.append_assoc]
                  congr 1
                  simp only [List.map_cons, List.map_nil, hx, remS, Es.flat, List.cons_append, List.nil_append, List.append_assoc, List.length_cons]
                  rw [HK.out, HSL.out]
                  rfl
                · have h4 := hown4
                  rw [HK.out] at h4
                  simpa using h4
                · exact (HN2.out.grown hB hbn (World.grownBy_alloc W2 _ none) (fun j e => by cases e)).grown hB hbn hgrow (fun j e => by cases e; exact Nat.le_trans hW.size HG.out.1)
                · have := hgrow.size; simp at this; omega
                · exact hJ _ _ _ _ (hJ _ _ _ none HJ2.out (World.grownBy_alloc W2 _ none) (fun r e => by cases e)) hgrow (fun r e => by cases e; exact ⟨HG.out.1, _, (old_block _ _ _ (block_lt hcs2)).trans hcs2, rfl⟩)
              exact ⟨⟨_, hrel2⟩, by rw [HM.out]; exact Nat.lt_of_le_of_lt (least_le hrel2) (by simp [stackM, Es.count]; omega)⟩
end Go.Proofs.YtmcafiihicanfaaDoor
