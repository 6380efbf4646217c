/- cnf: a walk: free; on. -/
import Derived.Test.YtapaoccpbcjgeaaCnmE
import Derived.ScopeJumps
namespace Go.Proofs.Ytapaoccpbcjgeaa
open Go.RowKit Go.BigFrame
open Cnf (at_ Heaped litB leftL heldB unitsF firstU openN clashB zeroB)

theorem lit_wrap {v x : Int} (h : litB v x = true) (hv : v ≤ 100000) : IntKind.i64.wrap (-x) = -x ∧ -100000 ≤ x ∧ x ≤ 100000 := by
  have := lit_small hv h
  exact ⟨IntWalk.i64_in _ (by omega), this.2⟩
set_option maxRecDepth 100000 in
set_option maxHeartbeats 2000000 in
theorem wfree_any (p : WPar) (cs : List (List Int)) (v x : Int) (i : Nat) (S lf : List Int) (hf sf : List Bool) (b : Bool) (rv yv : Value) (rdy : List Int) (w : World) (C : Coh p cs v) (H : WSt p w S lf hf sf b rv yv rdy) (hsa : SetAt v sf S) (hi : i < cs.length) (hl : leftL (cs.getD i []) S = [x]) :
    Calls Try.prog 48 #[.pointer (some ⟨p.g, 0, none⟩), .int .i64 (i : Int)] w fun e w' => e = .returned (.int .i64 x) ∧ ∃ nq, w' = w.drewN nq := by
  have hpn := C.n
  have hps := C.small
  have hV : p.V = (2 * v + 2).toNat := C.V
  have hV1 := C.v1
  have hV0 := C.v0
  have hcl := H.cl
  obtain ⟨A, cap, hva, hlc, hmc⟩ := hcl.form
  rw [hva] at hcl
  have hdl := C.dsl
  rw [hdl] at hlc
  obtain ⟨ad, u, hA, hcu, hu⟩ := OutS.get hcl i (by omega)
  subst hA
  rw [show p.ds.getD i default = p.ds.getD i [] from rfl] at hu
  obtain ⟨A2, cap2, rfl, hl2, hm2⟩ := RdS.form hu
  obtain ⟨c0, c1, c2, c3, c4, c5, c6, c7, cf⟩ := H.cells
  rw [hva, hdl] at c0
  have HC := Lib.hid C
  have HU := Lib.hid hu
  have HST := Lib.hid H
  have HSA := Lib.hid hsa
  have HV := Lib.hid hV
  have HMEM := Lib.hid (fun y => C.ds i hi y)
  have HLIT := Lib.hid (fun y (hy : y ∈ cs.getD i []) => C.lits i hi y hy)
  have HX : Hid (∀ y, y ∈ cs.getD i [] → -y ∉ S → y = x) := Lib.hid fun y hy hn => by
    have := (Cnf.mem_left (cs.getD i []) S y).2 ⟨hy, hn⟩
    rw [hl, List.mem_singleton] at this; exact this
  have HXM : Hid (x ∈ cs.getD i [] ∧ -x ∉ S) := Lib.hid ((Cnf.mem_left (cs.getD i []) S x).1 (by rw [hl]; simp))
  obtain ⟨d, hd⟩ : ∃ d, d = p.ds.getD i [] := ⟨_, rfl⟩
  rw [← hd] at HU HMEM hl2 hcu
  have hi' : (i : Int) < (cs.length : Int) := by omega
  unfold maxLen at hm2 hmc
  clear c1 c2 c3 c5 c6 c7 cf hva hcl hu hd hdl hV H C hsa hl hpn
  generalize hcsl : cs.length = n at *
  clear hcsl
  go_enter Try.func48, Try.ntmps48
  go_wp2
  go_loopw [15, 6, 4] (fun kv _ r wr => ∃ k nq : Nat, k ≤ d.length ∧ kv = .int .i64 k ∧ r = .int .i64 0 ∧ Hid (wr = w.drewN nq) ∧ Hid (∀ j, j < k → -(d.getD j 0) ∈ S)) (fun kv _ _ _ => d.length - (intOf kv).toNat)
  case atStart => exact ⟨0, 0, by omega, rfl, rfl, Lib.hid rfl, Lib.hid fun j h => absurd h (Nat.not_lt_zero j)⟩
  case round =>
    obtain ⟨k, nq, hk, rfl, rfl, HW, HS⟩ := hrel
    by_cases hlt : k < d.length
    · have HU1 : Hid (IRow wr p.St (.slice A2 d.length cap2) d) := Lib.hid (IRow.keeps.keep HU.out (by rw [HW.out]; exact (show Ch w (w.drewN nq) (fun _ => False) from (Ch.refl w _).drewN nq).same _ fun _ _ _ h => h))
      obtain ⟨ad2, rfl, hcx⟩ := IRow.get HU1.out k hlt
      have HG := Lib.hid (show ∀ j, j < k + 1 → j = k ∨ j < k by omega)
      have hym : d.getD k 0 ∈ d := by simp [List.getD, hlt]
      have HYM := Lib.hid ((HMEM.out _).1 hym)
      have HLY := Lib.hid (HLIT.out _ HYM.out)
      obtain ⟨y, hy⟩ : ∃ y, y = d.getD k 0 := ⟨_, rfl⟩
      have HY := Lib.hid hy
      rw [← hy] at hcx HYM HLY
      clear hy hym
      obtain ⟨hwy, hy1, hy2⟩ := lit_wrap HLY.out hV1
      have HIN := Lib.hid (fun w' => index_any (-y) w' (by omega) (by omega))
      have hdn : idx (-y) < p.V := by rw [HV.out]; exact idx_lt (lit_neg HLY.out)
      have hVb : p.V ≤ 200002 := by have := HV.out; omega
      have hdn' : (idx (-y) : Int) < (p.V : Int) := by omega
      have HST1 : Hid (WSt p wr S lf hf sf b rv yv rdy) := Lib.hid (by rw [HW.out]; exact HST.out.drewN nq)
      have hsn := (HST1.out.setAt _ hdn).1
      rw [HSA.out (-y) (lit_neg HLY.out)] at hsn
      have c4' := HST1.out.cells.c4
      have hk' : (k : Int) < (d.length : Int) := by omega
      by_cases hin : -y ∈ S
      · rw [decide_eq_true hin] at hsn
        have HS' : Hid (∀ j, j < k + 1 → -(d.getD j 0) ∈ S) := Lib.hid fun j hj => by
          rcases HG.out j hj with rfl | h
          · rw [← HY.out]; exact hin
          · exact HS.out j h
        clear hin
        go_wp2
        go_quiet ((go_at_call 45; exact Calls.quiet_of_same (HIN.out _)))
        go_wp2
        go_roundw
        case rel => exact ⟨k + 1, _, by omega, by go_num, rfl, Lib.hid (by rw [HW.out]; exact World.drewN_drewN _ _ _), HS'⟩
        case measure => simp [intOf]; omega
      · rw [decide_eq_false hin] at hsn
        have HYX := Lib.hid (HX.out y HYM.out hin)
        clear hin
        go_wp2
        go_quiet ((go_at_call 45; exact Calls.quiet_of_same (HIN.out _)))
        go_wp2
        go_ret
        exact ⟨by rw [HYX.out]; rfl, _, by rw [HW.out]; exact World.drewN_drewN _ _ _⟩
    · exfalso
      obtain ⟨j, hj, hjx⟩ := List.mem_iff_getElem.1 ((HMEM.out x).2 HXM.out.1)
      have := HS.out j (by omega)
      rw [show d.getD j 0 = x by simp [List.getD, hj, hjx]] at this
      exact HXM.out.2 this
end Go.Proofs.Ytapaoccpbcjgeaa

/- cnf: a walk: on. -/
namespace Go.Proofs.Ytapaoccpbcjgeaa
open Go.RowKit Go.BigFrame
open Cnf (at_ Heaped litB leftL heldB unitsF firstU openN clashB zeroB)

def heapLen (w : World) (g : Nat) : Nat := match w.cell? ⟨g, 7, none⟩ with | some (.slice _ n _) => n | _ => 0
def leftSum (w : World) (g : Nat) : Nat := match w.heap[g]? with | some (.cells cs _ _) => (cs.toList.map intOf).sum.toNat | _ => 0
def muW (p : WPar) (w : World) : Nat := heapLen w p.g + leftSum w p.gl
theorem map_intOf : ∀ l : List Int, (ints l).map intOf = l
  | [] => rfl
  | x :: l => by
    show intOf (.int .i64 x) :: (ints l).map intOf = x :: l
    rw [map_intOf l]; rfl
theorem mu_at {p : WPar} {cs : List (List Int)} {v : Int} {w : World} {S rdy : List Int} {b : Bool} {K : Int} (h : WalkAt p cs v w S rdy b K) : (muW p w : Int) = (rdy.length : Int) + (lefts cs S).sum := by
  obtain ⟨⟨sf, rv, yv, hst, _⟩, _, _⟩ := h
  obtain ⟨A, cap, rfl⟩ := own_form hst.rown
  unfold muW heapLen leftSum
  rw [hst.cells.c7, hst.left]
  simp only [map_intOf]
  have := lefts_nn cs S
  omega
structure OnSt (p : WPar) (cs : List (List Int)) (v : Int) (S0 : List Int) (w0 w : World) (S rdy : List Int) (b : Bool) : Prop where
  wk : WalkAt p cs v w S rdy b 6000000
  bel : Below p.base w0 w
  eq : unitsF cs S0 = unitsF cs S
  len : S.length + openN cs S ≤ 3000000
def OnPost (p : WPar) (cs : List (List Int)) (v : Int) (S0 : List Int) (w0 : World) (e : Ending) (w : World) : Prop :=
  e = .returned (.tuple #[]) ∧ Below p.base w0 w ∧ ∃ S rdy b, WalkAt p cs v w S rdy b 6000000 ∧ unitsF cs S0 = (S, b)
def OnJ (p : WPar) (cs : List (List Int)) (v : Int) (S0 : List Int) (w0 : World) (a : Act) (w : World) : Prop :=
  ∃ (S rdy : List Int) (b : Bool) (t1 u2 u3 u4 u5 u6 u7 u8 u9 u10 u11 u12 u13 u14 u15 u16 u17 u18 u19 u20 u21 u22 u23 u24 u25 u26 u27 u28 u29 u30 u31 u32 u33 : Value), a = { tmps := #[.pointer (some ⟨p.g, 0, none⟩), t1, u2, u3, u4, u5, u6, u7, u8, u9, u10, u11, u12, u13, u14, u15, u16, u17, u18, u19, u20, u21, u22, u23, u24, u25, u26, u27, u28, u29, u30, u31, u32, u33], defers := [] } ∧ Hid (OnSt p cs v S0 w0 w S rdy b)
theorem on_clash {p : WPar} {cs : List (List Int)} {v : Int} {S0 : List Int} {w0 w : World} {S rdy : List Int} (h : OnSt p cs v S0 w0 w S rdy true) : OnPost p cs v S0 w0 (.returned (.tuple #[])) w :=
  ⟨rfl, h.bel, S, rdy, true, h.wk, by rw [h.eq, Cnf.units_clash cs S (by rw [Cnf.clash_zero]; exact h.wk.2.1.1.clash_eq.symm)]⟩
theorem on_none {p : WPar} {cs : List (List Int)} {v : Int} {S0 : List Int} {w0 w : World} {S : List Int} (h : OnSt p cs v S0 w0 w S [] false) : OnPost p cs v S0 w0 (.returned (.tuple #[])) w :=
  ⟨rfl, h.bel, S, [], false, h.wk, by rw [h.eq, Cnf.units_none cs S (by rw [Cnf.clash_zero]; exact h.wk.2.1.1.clash_eq.symm) (Cnf.Kept.none h.wk.2.1.1)]⟩
theorem cs_get {cs : List (List Int)} {i : Nat} {c : List Int} (h : cs[i]? = some c) : i < cs.length ∧ cs.getD i [] = c := by
  have hi : i < cs.length := by
    by_cases hi : i < cs.length
    · exact hi
    · rw [List.getElem?_eq_none (by omega)] at h; cases h
  exact ⟨hi, by simp [List.getD, h]⟩
theorem ready_nat {cs : List (List Int)} {S rdy : List Int} {b : Bool} (h : Ready cs S rdy b) {x : Int} (hx : x ∈ rdy) : ∃ i : Nat, x = (i : Int) ∧ i < cs.length := by
  have h0 := h.2 x hx
  obtain ⟨c, hc, _⟩ := h.1.few x.toNat ((rdy_mem h.2 _).2 (by rw [Int.toNat_of_nonneg h0]; exact hx))
  exact ⟨x.toNat, by omega, (cs_get hc).1⟩
theorem ready_drop {cs : List (List Int)} {S rdy rest : List Int} {b : Bool} {i : Nat} (h : Ready cs S rdy b) (hi : i < cs.length) (hh : heldB (cs.getD i []) S = true) (hs : ∀ k, k ∈ rest → k ∈ rdy) (hc : ∀ k, k ∈ rdy → k = (i : Int) ∨ k ∈ rest) : Ready cs S rest b := by
  have hn : ∀ k ∈ rest, 0 ≤ k := fun k hk => h.2 k (hs k hk)
  refine ⟨h.1.drop (i := i) (c := cs.getD i []) (by simp [List.getD, hi]) hh (fun j hj => ?_) (fun j hj => ?_), hn⟩
  · rw [rdy_mem hn] at hj; rw [rdy_mem h.2]; exact hs _ hj
  · rw [rdy_mem h.2] at hj; rw [rdy_mem hn]
    rcases hc _ hj with e | e
    · exact .inl (by omega)
    · exact .inr e
theorem ready_first {cs : List (List Int)} {S rdy : List Int} {i : Nat} (h : Ready cs S rdy false) (hi : i < cs.length) (hm : (i : Int) ∈ rdy) (hl : ∀ k, k ∈ rdy → (i : Int) ≤ k) (hh : heldB (cs.getD i []) S = false) : ∃ x, leftL (cs.getD i []) S = [x] ∧ firstU cs S = some x :=
  h.1.first ((rdy_mem h.2 i).2 hm) (fun j hj => by
    have := hl _ ((rdy_mem h.2 j).1 hj); omega) (by simp [List.getD, hi]) hh
theorem ready_x {cs : List (List Int)} {S rdy rest : List Int} {b : Bool} {i : Nat} {x : Int} (h : Ready cs S rdy b) (hi : i < cs.length) (hx : x ∈ cs.getD i []) (hs : ∀ k, k ∈ rest → k ∈ rdy) (hc : ∀ k, k ∈ rdy → k = (i : Int) ∨ k ∈ rest) : ReadyX cs S rest b x := by
  have hn : ∀ k ∈ rest, 0 ≤ k := fun k hk => h.2 k (hs k hk)
  refine ⟨KeptX.drop h.1 (i := i) (c := cs.getD i []) (by simp [List.getD, hi]) hx (fun j hj => ?_) (fun j hj => ?_), hn⟩
  · rw [rdy_mem hn] at hj; rw [rdy_mem h.2]; exact hs _ hj
  · rw [rdy_mem h.2] at hj; rw [rdy_mem hn]
    rcases hc _ hj with e | e
    · exact .inl (by omega)
    · exact .inr e
/-- What popping leaves. -/
theorem on_pop {p : WPar} {_cs : List (List Int)} {_v : Int} {_S0 : List Int} {_w0 w w1 : World} {S rdy rest lf : List Int} {hf sf : List Bool} {b : Bool} {rv yv v' : Value} {x : Int}
    (H : WSt p w S lf hf sf b rv yv rdy) (hp : Popped p.base p.g (wcells p rv b yv) yv rdy x w w1 v' rest) : WSt p w1 S lf hf sf b rv v' rest ∧ Below p.base w w1 :=
  ⟨H.heaped hp.rdy hp.ch (.inl hp.moved) hp.heap, hp.ch.below H.lo.2.2.2.2 (by
    rintro k (e | e)
    · rw [e]; exact H.lo.1
    · exact (H.rown.lt k e).1)⟩
set_option maxRecDepth 100000 in
set_option maxHeartbeats 4000000 in
theorem won_any (p : WPar) (cs : List (List Int)) (v : Int) (S0 S rdy : List Int) (b : Bool) (w0 wr : World) (C : Coh p cs v) (H : OnSt p cs v S0 w0 wr S rdy b) :
    Calls Try.prog 36 #[.pointer (some ⟨p.g, 0, none⟩)] wr (OnPost p cs v S0 w0) := by
  have HC := Lib.hid C
  have HO := Lib.hid H
  clear C H
  go_enter Try.func36, Try.ntmps36
  go_wp2
  refine wp_scope_jumps 0 (OnJ p cs v S0 w0) (fun _ w' => muW p w') rfl ?_ ?_
  · go_wp2
    go_step3
    cases b
    · obtain ⟨sf, rv, yv, hst, hsa⟩ := HO.out.wk.1
      have HST := Lib.hid hst
      have HSA := Lib.hid hsa
      have HRD := Lib.hid HO.out.wk.2.1
      have HK := Lib.hid HO.out.wk.2.2
      have HMU := Lib.hid (mu_at HO.out.wk)
      have HLS := Lib.hid (lefts_nn cs S)
      clear hst hsa
      obtain ⟨yA, ycap, rfl⟩ := own_form HST.out.rown
      have c6 := HST.out.cells.c6
      have c7 := HST.out.cells.c7
      by_cases h0 : rdy.length = 0
      · obtain rfl : rdy = [] := List.eq_nil_of_length_eq_zero h0
        have HF := Lib.hid (on_none HO.out)
        clear h0
        go_wp2
        (simp only [Exit.jump]; go_end0; exact HF.out)
      · have h0' : ¬ (rdy.length : Int) = 0 := by omega
        have HPOP := Lib.hid (heapPop_any p.base p.g _ _ rdy wr HST.out.rdyAt HST.out.heap (by omega) (by have := HK.out; have := HLS.out; omega))
        unfold hp at HPOP
        go_wp2_with fail
        refine HPOP.out.mono ?_
        rintro e w1 ⟨x0, rfl, v', rest, hpp⟩
        obtain ⟨i, rfl, hi⟩ := ready_nat HRD.out hpp.mem
        obtain ⟨hst1, hb1⟩ := on_pop (_S0 := S0) (_w0 := w0) (_cs := cs) (_v := v) HST.out hpp
        have HPP := Lib.hid hpp
        have HST1 := Lib.hid hst1
        have HB1 := Lib.hid hb1
        have hta : ∀ w, (Instr.typeAssert (.iface 3 (.int .i64 (i : Int))) 20 3 false).run Try.prog w = .ok (.int .i64 (i : Int)) w := fun _ => by kernel_rfl
        have hip : i < p.n := by rw [HC.out.n]; exact hi
        have hhc := (HST1.out.holdAt i hip).1
        rw [helds_get cs S i hi] at hhc
        have c2 := HST1.out.cells.c2
        have hi' : (i : Int) < (p.n : Int) := by omega
        have HLR := Lib.hid hpp.len
        clear hpp hst1 hb1 c6 c7 h0 h0' HPOP
        cases hh : heldB (cs.getD i []) S
        · rw [hh] at hhc
          obtain ⟨x, hlx, hfx⟩ := ready_first HRD.out hi HPP.out.mem HPP.out.least hh
          have hxm := (Cnf.mem_left (cs.getD i []) S x).1 (by rw [hlx]; simp)
          have hlit := HC.out.lits i hi x hxm.1
          have hxs : x ∉ S := fun h => by
            rw [← Bool.not_eq_true, Cnf.heldB_iff] at hh
            exact hh ⟨x, hxm.1, h⟩
          have HFR := Lib.hid (wfree_any p cs v x i S _ _ sf false rv v' rest w1 HC.out HST1.out HSA.out hi hlx)
          have HNX := Lib.hid hxs
          have HFX := Lib.hid hfx
          have HLX := Lib.hid hlit
          have HRX := Lib.hid (ready_x HRD.out hi hxm.1 HPP.out.sub HPP.out.cover)
          clear hh hlx hfx hxm hlit hxs
          go_wp2_with fail
          refine HFR.out.mono ?_
          rintro e w' ⟨rfl, nq, hw⟩
          have HST2 : Hid (WSt p w' S (lefts cs S) (helds cs S) sf false rv v' rest) := Lib.hid (by rw [hw]; exact HST1.out.drewN nq)
          have HB2 : Hid (Below p.base w1 w') := Lib.hid (by rw [hw]; exact below_drewN (Below.refl _ _) nq)
          clear hw hta hhc c2
          have HAD := Lib.hid (wadd_any p cs v x S rest false ((rest.length : Int) + (lefts cs S).sum) w' HC.out ⟨⟨sf, rv, v', HST2.out, HSA.out⟩, HRX.out, Int.le_refl _⟩ HLX.out (by have := HO.out.len; omega) (by have := HK.out; have := HLR.out; omega))
          go_wp2_with fail
          refine HAD.out.mono ?_
          rintro e w3 ⟨rfl, hb3, rdy3, b3, hw3⟩
          rw [if_neg HNX.out] at hw3
          have HM3 := Lib.hid (mu_at hw3)
          have HK3 := Lib.hid hw3.2.2
          have HN : Hid (OnSt p cs v S0 w0 w3 (S ++ [x]) rdy3 b3) := Lib.hid ⟨⟨hw3.1, hw3.2.1, by have := hw3.2.2; have := HK.out; have := HLR.out; omega⟩, ((HO.out.bel.trans HB1.out).trans HB2.out).trans hb3,
            HO.out.eq.trans (Cnf.units_some cs S x (by rw [Cnf.clash_zero]; exact HRD.out.1.clash_eq.symm) HFX.out),
            by have := Cnf.open_lt cs S x HFX.out; have := HO.out.len; rw [List.length_append, List.length_singleton]; omega⟩
          have HLT : Hid (muW p w3 < muW p wr) := Lib.hid (by have := HM3.out; have := HMU.out; have := HK3.out; have := HLR.out; omega)
          clear hb3 hw3
          go_wp2
          go_step3
          exact ⟨rfl, _, _, _, _, _, _, _, _, _, _, _, _, _, _, _, _, _, _, _, _, _, _, _, _, _, _, _, _, _, _, _, _, _, _, _, _, rfl, HN⟩
        · rw [hh] at hhc
          have hwk : WalkAt p cs v w1 S rest false 6000000 := ⟨⟨sf, rv, v', HST1.out, HSA.out⟩, ready_drop HRD.out hi hh HPP.out.sub HPP.out.cover, by have := HK.out; have := HLR.out; omega⟩
          have HN : Hid (OnSt p cs v S0 w0 w1 S rest false) := Lib.hid ⟨hwk, HO.out.bel.trans HB1.out, HO.out.eq, HO.out.len⟩
          have HLT : Hid (muW p w1 < muW p wr) := Lib.hid (by have := mu_at hwk; have := HMU.out; have := HLR.out; omega)
          clear hh hwk
          go_wp2
          go_step3
          exact ⟨rfl, _, _, _, _, _, _, _, _, _, _, _, _, _, _, _, _, _, _, _, _, _, _, _, _, _, _, _, _, _, _, _, _, _, _, _, _, rfl, HN⟩
    · obtain ⟨sf, rv, yv, hst, hsa⟩ := HO.out.wk.1
      have c6 := hst.cells.c6
      have HF := Lib.hid (on_clash HO.out)
      clear hst hsa
      go_wp2
      (simp only [Exit.jump]; go_end0; exact HF.out)
  · clear HO
    rintro a' wr ⟨S, rdy, b, t1, u2, u3, u4, u5, u6, u7, u8, u9, u10, u11, u12, u13, u14, u15, u16, u17, u18, u19, u20, u21, u22, u23, u24, u25, u26, u27, u28, u29, u30, u31, u32, u33, rfl, HO⟩
    cases b
    · obtain ⟨sf, rv, yv, hst, hsa⟩ := HO.out.wk.1
      have HST := Lib.hid hst
      have HSA := Lib.hid hsa
      have HRD := Lib.hid HO.out.wk.2.1
      have HK := Lib.hid HO.out.wk.2.2
      have HMU := Lib.hid (mu_at HO.out.wk)
      have HLS := Lib.hid (lefts_nn cs S)
      clear hst hsa
      obtain ⟨yA, ycap, rfl⟩ := own_form HST.out.rown
      have c6 := HST.out.cells.c6
      have c7 := HST.out.cells.c7
      by_cases h0 : rdy.length = 0
      · obtain rfl : rdy = [] := List.eq_nil_of_length_eq_zero h0
        have HF := Lib.hid (on_none HO.out)
        clear h0
        go_wp2
        (simp only [Exit.jump]; go_end0; exact HF.out)
      · have h0' : ¬ (rdy.length : Int) = 0 := by omega
        have HPOP := Lib.hid (heapPop_any p.base p.g _ _ rdy wr HST.out.rdyAt HST.out.heap (by omega) (by have := HK.out; have := HLS.out; omega))
        unfold hp at HPOP
        go_wp2_with fail
        refine HPOP.out.mono ?_
        rintro e w1 ⟨x0, rfl, v', rest, hpp⟩
        obtain ⟨i, rfl, hi⟩ := ready_nat HRD.out hpp.mem
        obtain ⟨hst1, hb1⟩ := on_pop (_S0 := S0) (_w0 := w0) (_cs := cs) (_v := v) HST.out hpp
        have HPP := Lib.hid hpp
        have HST1 := Lib.hid hst1
        have HB1 := Lib.hid hb1
        have hta : ∀ w, (Instr.typeAssert (.iface 3 (.int .i64 (i : Int))) 20 3 false).run Try.prog w = .ok (.int .i64 (i : Int)) w := fun _ => by kernel_rfl
        have hip : i < p.n := by rw [HC.out.n]; exact hi
        have hhc := (HST1.out.holdAt i hip).1
        rw [helds_get cs S i hi] at hhc
        have c2 := HST1.out.cells.c2
        have hi' : (i : Int) < (p.n : Int) := by omega
        have HLR := Lib.hid hpp.len
        clear hpp hst1 hb1 c6 c7 h0 h0' HPOP
        cases hh : heldB (cs.getD i []) S
        · rw [hh] at hhc
          obtain ⟨x, hlx, hfx⟩ := ready_first HRD.out hi HPP.out.mem HPP.out.least hh
          have hxm := (Cnf.mem_left (cs.getD i []) S x).1 (by rw [hlx]; simp)
          have hlit := HC.out.lits i hi x hxm.1
          have hxs : x ∉ S := fun h => by
            rw [← Bool.not_eq_true, Cnf.heldB_iff] at hh
            exact hh ⟨x, hxm.1, h⟩
          have HFR := Lib.hid (wfree_any p cs v x i S _ _ sf false rv v' rest w1 HC.out HST1.out HSA.out hi hlx)
          have HNX := Lib.hid hxs
          have HFX := Lib.hid hfx
          have HLX := Lib.hid hlit
          have HRX := Lib.hid (ready_x HRD.out hi hxm.1 HPP.out.sub HPP.out.cover)
          clear hh hlx hfx hxm hlit hxs
          go_wp2_with fail
          refine HFR.out.mono ?_
          rintro e w' ⟨rfl, nq, hw⟩
          have HST2 : Hid (WSt p w' S (lefts cs S) (helds cs S) sf false rv v' rest) := Lib.hid (by rw [hw]; exact HST1.out.drewN nq)
          have HB2 : Hid (Below p.base w1 w') := Lib.hid (by rw [hw]; exact below_drewN (Below.refl _ _) nq)
          clear hw hta hhc c2
          have HAD := Lib.hid (wadd_any p cs v x S rest false ((rest.length : Int) + (lefts cs S).sum) w' HC.out ⟨⟨sf, rv, v', HST2.out, HSA.out⟩, HRX.out, Int.le_refl _⟩ HLX.out (by have := HO.out.len; omega) (by have := HK.out; have := HLR.out; omega))
          go_wp2_with fail
          refine HAD.out.mono ?_
          rintro e w3 ⟨rfl, hb3, rdy3, b3, hw3⟩
          rw [if_neg HNX.out] at hw3
          have HM3 := Lib.hid (mu_at hw3)
          have HK3 := Lib.hid hw3.2.2
          have HN : Hid (OnSt p cs v S0 w0 w3 (S ++ [x]) rdy3 b3) := Lib.hid ⟨⟨hw3.1, hw3.2.1, by have := hw3.2.2; have := HK.out; have := HLR.out; omega⟩, ((HO.out.bel.trans HB1.out).trans HB2.out).trans hb3,
            HO.out.eq.trans (Cnf.units_some cs S x (by rw [Cnf.clash_zero]; exact HRD.out.1.clash_eq.symm) HFX.out),
            by have := Cnf.open_lt cs S x HFX.out; have := HO.out.len; rw [List.length_append, List.length_singleton]; omega⟩
          have HLT : Hid (muW p w3 < muW p wr) := Lib.hid (by have := HM3.out; have := HMU.out; have := HK3.out; have := HLR.out; omega)
          clear hb3 hw3
          go_wp2
          go_step3
          exact ⟨rfl, ⟨_, _, _, _, _, _, _, _, _, _, _, _, _, _, _, _, _, _, _, _, _, _, _, _, _, _, _, _, _, _, _, _, _, _, _, _, rfl, HN⟩, HLT.out⟩
        · rw [hh] at hhc
          have hwk : WalkAt p cs v w1 S rest false 6000000 := ⟨⟨sf, rv, v', HST1.out, HSA.out⟩, ready_drop HRD.out hi hh HPP.out.sub HPP.out.cover, by have := HK.out; have := HLR.out; omega⟩
          have HN : Hid (OnSt p cs v S0 w0 w1 S rest false) := Lib.hid ⟨hwk, HO.out.bel.trans HB1.out, HO.out.eq, HO.out.len⟩
          have HLT : Hid (muW p w1 < muW p wr) := Lib.hid (by have := mu_at hwk; have := HMU.out; have := HLR.out; omega)
          clear hh hwk
          go_wp2
          go_step3
          exact ⟨rfl, ⟨_, _, _, _, _, _, _, _, _, _, _, _, _, _, _, _, _, _, _, _, _, _, _, _, _, _, _, _, _, _, _, _, _, _, _, _, rfl, HN⟩, HLT.out⟩
    · obtain ⟨sf, rv, yv, hst, hsa⟩ := HO.out.wk.1
      have c6 := hst.cells.c6
      have HF := Lib.hid (on_clash HO.out)
      clear hst hsa
      go_wp2
      (simp only [Exit.jump]; go_end0; exact HF.out)
end Go.Proofs.Ytapaoccpbcjgeaa
