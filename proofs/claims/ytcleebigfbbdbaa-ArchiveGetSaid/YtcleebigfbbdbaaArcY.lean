/- archive: the reference's getDir. -/
import Derived.Test.YtcleebigfbbdbaaAmJ
import Derived.Deep.AppendLies
import Derived.Laws.Tables
set_option linter.unusedVariables false
set_option linter.unusedSimpArgs false
namespace Go.Proofs.Ytcleebigfbbdbaa
open Go Go.RowKit Go.BigFrame
open Fil (Es Nd Sp)
open Arc (BL num4 num2 encT letK encE encN sizE sizN rfN rdN rfE rdE rdT rd2 beN)
attribute [local go_sem] Oper.semAt_some

theorem infoEntY : (Try.prog.info? 42).map (fun i => (i.zero, i.size, i.bytes)) = some (some (.agg #[.string ⟨#[]⟩, .int .u8 0, .string ⟨#[]⟩, .slice none 0 0]), 4, 64) := by kernel_rfl
theorem DirI.es2 {w wx : World} {node : BL → Option (Nd × BL)} {l : BL} {cnt : Nat} {b2 : BL} {i at' : Nat} {done : Es} {vs : Value} (h : DirI w wx node l cnt b2 i at' done vs) : EsS wx (fun b => w.heap.size + 2 ≤ b ∧ b < wx.heap.size) vs done := by
  obtain ⟨xs, h1, h2⟩ := h.own
  exact ownS_cells h1 h.len.symm (h2.keep fun b hs => ⟨⟨hs.1, hs.2.1⟩, rfl⟩) fun b hb => h1.lt b hb
/-- What is answered: the directory as far as it is read. -/
theorem DirI.out {w wx : World} {node : BL → Option (Nd × BL)} {l : BL} {cnt : Nat} {b2 : BL} {i at' : Nat} {done : Es} {vs : Value} (h : DirI w wx node l cnt b2 i at' done vs) :
    Below w.heap.size w (wx.setRow w.heap.size #[.int .u8 4, .string ⟨#[]⟩, vs]) ∧ NdS (wx.setRow w.heap.size #[.int .u8 4, .string ⟨#[]⟩, vs]) (Nw w (wx.setRow w.heap.size #[.int .u8 4, .string ⟨#[]⟩, vs])) (.agg #[.int .u8 4, .string ⟨#[]⟩, vs]) ⟨4, ⟨#[]⟩, done⟩ := by
  have hz : (wx.setRow w.heap.size #[.int .u8 4, .string ⟨#[]⟩, vs]).heap.size = wx.heap.size := by simp [World.setRow]
  refine ⟨below_setRow h.below (Nat.le_refl _) _, vs, rfl, h.es2.keep fun b hb => ?_, Nat.zero_le _, (by decide : (4 : Nat) < 256)⟩
  have h1 := hb.1
  have h2 := hb.2
  exact ⟨⟨by omega, by rw [hz]; exact h2⟩, setRow_other _ _ _ _ (by omega)⟩
theorem DirI.fail {w wx : World} {node : BL → Option (Nd × BL)} {l : BL} {cnt : Nat} {b2 : BL} {i at' : Nat} {done : Es} {vs : Value} (h : DirI w wx node l cnt b2 i at' done vs) :
    GnPost w none l (.returned (.tuple #[.agg #[.int .u8 4, .string ⟨#[]⟩, vs], .int .i64 0, .bool false])) (wx.setRow w.heap.size #[.int .u8 4, .string ⟨#[]⟩, vs]) := by
  obtain ⟨h1, h2⟩ := h.out
  exact ⟨h1, _, _, 0, false, rfl, h2, rfl⟩
theorem DirI.done' {w wx : World} {node : BL → Option (Nd × BL)} {l : BL} {cnt : Nat} {b2 : BL} {at' : Nat} {done : Es} {vs : Value} (h : DirI w wx node l cnt b2 cnt at' done vs) :
    GnPost w (some (⟨4, ⟨#[]⟩, done⟩, l.drop at')) l (.returned (.tuple #[.agg #[.int .u8 4, .string ⟨#[]⟩, vs], .int .i64 (at' : Int), .bool true])) (wx.setRow w.heap.size #[.int .u8 4, .string ⟨#[]⟩, vs]) := by
  obtain ⟨h1, h2⟩ := h.out
  exact ⟨h1, _, _, at', true, rfl, h2, rfl, rfl, h.le⟩
theorem DirI.read {w wx : World} {node : BL → Option (Nd × BL)} {l : BL} {cnt : Nat} {b2 : BL} {at' : Nat} {done : Es} {vs : Value} (h : DirI w wx node l cnt b2 cnt at' done vs) : rfE node cnt b2 = some (done, l.drop at') := by
  rw [h.rest, Nat.sub_self]
  show some (appE done .nil, _) = _
  rw [app_nil]
theorem DirI.none1 {w wx : World} {node : BL → Option (Nd × BL)} {l : BL} {cnt : Nat} {b2 : BL} {i at' : Nat} {done : Es} {vs : Value} (h : DirI w wx node l cnt b2 i at' done vs) (hi : i < cnt) (hT : rdT (l.drop at') = none) : rfE node cnt b2 = none := by
  rw [h.rest, show cnt - i = (cnt - (i + 1)) + 1 by omega]
  show (match (match rdT (l.drop at') with | none => none | some (s, b2) => match node b2 with | none => none | some (y, b3) => match rfE node (cnt - (i + 1)) b3 with | none => none | some (es, b4) => some (Es.cons s y.k y.d y.es es, b4)) with | none => none | some p => some (appE done p.1, p.2)) = _
  rw [hT]
theorem DirI.none2 {w wx : World} {node : BL → Option (Nd × BL)} {l : BL} {cnt : Nat} {b2 : BL} {i at' : Nat} {done : Es} {vs : Value} {s : ByteArray} {r2 : BL} (h : DirI w wx node l cnt b2 i at' done vs) (hi : i < cnt) (hT : rdT (l.drop at') = some (s, r2)) (hN : node r2 = none) : rfE node cnt b2 = none := by
  rw [h.rest, show cnt - i = (cnt - (i + 1)) + 1 by omega]
  show (match (match rdT (l.drop at') with | none => none | some (s, b2) => match node b2 with | none => none | some (y, b3) => match rfE node (cnt - (i + 1)) b3 with | none => none | some (es, b4) => some (Es.cons s y.k y.d y.es es, b4)) with | none => none | some p => some (appE done p.1, p.2)) = _
  rw [hT]
  simp only []
  rw [hN]
theorem two_sums {x0 x1 n : Nat} (h0 : x0 < 256) (h1 : x1 < 256) (hn : n = x0 * 256 + x1) :
    IntKind.i64.wrap ((x0 : Int) * 256) = (x0 : Int) * 256 ∧ IntKind.i64.wrap ((x0 : Int) * 256 + (x1 : Int)) = (n : Int) ∧ n < 65536 := by
  have e : (x0 : Int) * 256 + (x1 : Int) = (n : Int) := by omega
  rw [e]
  exact ⟨IntWalk.i64_in _ (by omega), IntWalk.i64_in _ (by omega), by omega⟩
set_option maxRecDepth 1000000 in
set_option maxRecDepth 100000 in
set_option maxHeartbeats 16000000 in
theorem getDir_any (f : Nat) (l : BL) (hl : l.length ≤ 10000000) (dep : Nat) (hdep : dep ≤ 32)
    (ih : ∀ (w : World) (at' : Nat), at' ≤ l.length → ∀ (B : Nat), B ≤ w.heap.size → ∀ v, BytAt w B v l → Calls Try.prog 34 #[v, .int .i64 (at' : Int), .int .i64 ((dep : Int) + 1)] w (GnPost w (rfN f (l.drop at')) l))
    (w : World) (at' : Nat) (ha : at' ≤ l.length) (B : Nat) (hBw : B ≤ w.heap.size) (v : Value) (hv : BytAt w B v l) :
    Calls Try.prog 47 #[v, .int .i64 (at' : Int), .int .i64 (dep : Int)] w (GnPost w (dirF f (l.drop at')) l) := by
  obtain ⟨i0, hi0, hz0, hz1, hz2⟩ := info_parts infoEntY
  have hwd : IntKind.i64.wrap ((dep : Int) + 1) = (dep : Int) + 1 := IntWalk.i64_in _ (by omega)
  have hw4 : IntKind.i64.wrap ((at' : Int) + 2) = (at' : Int) + 2 := IntWalk.i64_in _ (by omega)
  have HIH := Lib.hid ih
  have HV := Lib.hid hv
  obtain ⟨A, cap, rfl, hcp⟩ := hv.form
  clear hv ih
  obtain ⟨W0, e0, hx6, hx9, hb0, hz⟩ := rows2 w (.cells #[.int .u8 0, .string ⟨#[]⟩, .slice none 0 0] 24) (.cells #[.int .u8 4, .string ⟨#[]⟩, .slice none 0 0] 24)
  go_enter Try.func47, Try.ntmps47
  go_upto_region 2 with (fail)
  rw [← e0]
  clear e0
  have HB0 := Lib.hid (And.intro hx6 (And.intro hx9 (And.intro hb0 hz)))
  have HV0 := Lib.hid (HV.out.keep (hb0.mono hBw))
  rcases Nat.lt_or_ge l.length (at' + 2) with h4 | h4
  · have hI : decide ((l.length : Int) < (at' : Int) + 2) = true := decide_eq_true (by omega)
    have hI2 : (l.length : Int) < (at' : Int) + 2 := by omega
    have HN := Lib.hid (show dirF f (l.drop at') = none by unfold dirF Arc.rd2; rw [if_neg (by rw [List.length_drop]; omega)])
    obtain ⟨hn0, hn1, hn2, _⟩ := nd_box (k := 4) (d := ⟨#[]⟩) (v := .slice none 0 0) hx9
    have HD := Lib.hid (show DirI w W0 (rfN f) l 0 (l.drop at') 0 at' .nil (.slice none 0 0) from ⟨hx6, hx9, ⟨[], ⟨rfl, .inl ⟨rfl, rfl⟩⟩, rfl⟩, rfl, hb0, by omega, ha, rfl, Nat.le_refl _⟩)
    clear hx6 hx9 hb0 hz h4
    go_wp2_with (refine wpList_store_row rfl _ _ _ rfl _ _ rfl rfl _ _ HB0.out.1 (by kernel_rfl) (by rfl) (by simp [Value.oneCell']) ?_)
    refine bodyPost_ret (node_results3 rfl (cs := #[.int .u8 4, .string ⟨#[]⟩, .slice none 0 0]) rfl (setRow_heap _ _ _ _ _ _ HB0.out.1) rfl) rfl ?_
    rw [HN.out]
    exact HD.out.fail
  have hI : decide ((l.length : Int) < (at' : Int) + 2) = false := decide_eq_false (by omega)
  have hI2 : ¬ (l.length : Int) < (at' : Int) + 2 := by omega
  obtain ⟨ab, ao, cap', he, hcap, hcm, hab, hcs⟩ := HV0.out.cells (by omega)
  injection he with he1 _ he2
  subst he1
  subst he2
  obtain ⟨c0, h0⟩ : ∃ c, l[at']? = some c := ⟨_, List.getElem?_eq_getElem (by omega)⟩
  obtain ⟨c1, h1⟩ : ∃ c, l[at' + 1]? = some c := ⟨_, List.getElem?_eq_getElem (by omega)⟩
  have hq0 := hcs _ _ h0
  have hq1 := hcs _ _ h1
  rw [← Nat.add_assoc] at hq1
  have ht2 : (l.drop at').take 2 = [c0, c1] := by
    apply List.ext_getElem?
    intro j
    rw [List.getElem?_take]
    match j with
    | 0 => simpa using h0
    | 1 => simpa using h1
    | j + 2 => rw [if_neg (by omega)]; simp
  have hx0 := c0.toNat_lt
  have hx1 := c1.toNat_lt
  have hbe : beN [c0, c1] = c0.toNat * 256 + c1.toNat := by unfold Arc.beN; simp
  obtain ⟨cnt, hn⟩ : ∃ n, n = beN [c0, c1] := ⟨_, rfl⟩
  rw [← hn] at hbe
  have HRD := Lib.hid (show dirF f (l.drop at') = (match rfE (rfN f) cnt (l.drop (at' + 2)) with | none => none | some (es, b3) => some (⟨4, ⟨#[]⟩, es⟩, b3)) by
    unfold dirF Arc.rd2
    rw [if_pos (by rw [List.length_drop]; omega), ht2, ← hn, List.drop_drop]; rfl)
  have HCS := Lib.hid hcs
  generalize c0.toNat = x0 at *
  generalize c1.toNat = x1 at *
  obtain ⟨a1, ha1⟩ : ∃ a1, a1 = at' + 1 := ⟨_, rfl⟩
  have hw1 : IntKind.i64.wrap ((at' : Int) + 1) = (a1 : Int) := by rw [ha1]; push_cast; exact IntWalk.i64_in _ (by omega)
  rw [show ao + at' + 1 = ao + a1 by omega] at hq1
  have hat0 : (0 : Int) ≤ (at' : Int) := by omega
  have hb1 : (0 : Int) ≤ (a1 : Int) := by omega
  have hi0' : (at' : Int) < (l.length : Int) := by omega
  have hi1 : (a1 : Int) < (l.length : Int) := by omega
  obtain ⟨hs0, hs1, hc16⟩ := two_sums hx0 hx1 hbe
  have hc0 := wrap_byte hx0
  have hc1 := wrap_byte hx1
  obtain ⟨a2, ha2⟩ : ∃ a2, a2 = at' + 2 := ⟨_, rfl⟩
  rw [← ha2] at HRD
  have hw2 : IntKind.i64.wrap ((at' : Int) + 2) = (a2 : Int) := by rw [ha2]; push_cast; exact IntWalk.i64_in _ (by omega)
  have HA2 := Lib.hid (show a2 ≤ l.length by omega)
  have HBE := Lib.hid hbe
  clear h0 h1 hcs ht2 hn ha1 hbe hx6 hx9 ha2 HCS
  go_wp2
  go_quiet (fail)
  have HI0 := Lib.hid (show DirI w (W0.drewN nq) (rfN f) l cnt (l.drop a2) 0 a2 .nil (.slice none 0 0) from
    ⟨HB0.out.1, HB0.out.2.1, ⟨[], ⟨rfl, .inl ⟨rfl, rfl⟩⟩, rfl⟩, rfl, below_drewN HB0.out.2.2.1 _, by rw [heap_drewN]; omega, HA2.out, by
      rw [Nat.sub_zero]
      cases rfE (rfN f) cnt (l.drop a2) with
      | none => rfl
      | some p => rfl, Nat.zero_le _⟩)
  clear hq0 hq1 hs0 hs1 hc0 hc1 hw1 hw4 hi0' hi1 hb1 hat0 hI hI2 hab hb0
  go_wp2
  go_loopg [1, 11] cnt (fun k u1 u11 wx => ∃ i at2 : Nat, u1 = .int .i64 (at2 : Int) ∧ u11 = .int .i64 (i : Int) ∧ i + k = cnt ∧ Hid (∃ done A2 c2, DirI w wx (rfN f) l cnt (l.drop a2) i at2 done (.slice A2 done.len c2)))
  case atStart => exact ⟨0, a2, rfl, rfl, by omega, .nil, none, 0, HI0.out⟩
  case round =>
    obtain ⟨i, at2, rfl, rfl, hik, HI⟩ := hrel
    obtain ⟨done, A2, c2, hdi⟩ := HI.out
    clear HI
    have HDI := Lib.hid hdi
    obtain ⟨hn0, hn1, hn2, hf0, hf1, hf2⟩ := nd_box (k := 4) (d := ⟨#[]⟩) (v := .slice A2 done.len c2) hdi.box9
    clear hf0 hf1 hf2
    cases gk with
    | zero =>
      obtain rfl : i = cnt := by omega
      have HF := Lib.hid (show dirF f (l.drop at') = some (⟨4, ⟨#[]⟩, done⟩, l.drop at2) by rw [HRD.out, hdi.read])
      clear hdi
      go_wp2_with (refine wpList_store_row rfl _ _ _ rfl _ _ rfl rfl _ _ HDI.out.box6 (by kernel_rfl) (by rfl) (by simp [Value.oneCell']) ?_)
      refine bodyPost_ret (node_results3 rfl (cs := #[.int .u8 4, .string ⟨#[]⟩, .slice A2 done.len c2]) rfl (setRow_heap _ _ _ _ _ _ HDI.out.box6) rfl) rfl ?_
      rw [HF.out]
      exact HDI.out.done'
    | succ q =>
      have hicI : (i : Int) < (cnt : Int) := by omega
      have hic : i < cnt := by omega
      have hw1 : IntKind.i64.wrap ((i : Int) + 1) = (i : Int) + 1 := IntWalk.i64_in _ (by omega)
      have HVr := Lib.hid (HV.out.keep (HDI.out.below.mono hBw))
      have HTX := Lib.hid (getText_any l at2 hl HDI.out.le wr B _ HVr.out)
      clear hdi hn0 hn1 hn2
      go_wp2_with fail
      refine HTX.out.mono ?_
      rintro e W1 ⟨⟨nq1, rfl⟩, hm1⟩
      have HD1 := Lib.hid (HDI.out.step (below_drewN (Below.refl _ wr) nq1))
      have HV1 := Lib.hid (HVr.out.keep (below_drewN (Below.refl B wr) nq1))
      generalize wr.drewN nq1 = W1 at *
      obtain ⟨hn0, hn1, hn2, hf0, hf1, hf2⟩ := nd_box (k := 4) (d := ⟨#[]⟩) (v := .slice A2 done.len c2) HD1.out.box9
      clear hf0 hf1 hf2
      cases hT : rdT (l.drop at2) with
      | none =>
        rw [hT] at hm1
        subst hm1
        have HF := Lib.hid (show dirF f (l.drop at') = none by rw [HRD.out, HDI.out.none1 hic hT])
        clear hT
        go_wp2_with (refine wpList_store_row rfl _ _ _ rfl _ _ rfl rfl _ _ HD1.out.box6 (by kernel_rfl) (by rfl) (by simp [Value.oneCell']) ?_)
        refine bodyPost_ret (node_results3 rfl (cs := #[.int .u8 4, .string ⟨#[]⟩, .slice A2 done.len c2]) rfl (setRow_heap _ _ _ _ _ _ HD1.out.box6) rfl) rfl ?_
        rw [HF.out]
        exact HD1.out.fail
      | some p =>
        obtain ⟨s, r2⟩ := p
        rw [hT] at hm1
        obtain ⟨rfl, hr2, hle3⟩ := hm1
        dsimp only at hr2 hle3
        obtain ⟨at3, hat3⟩ : ∃ at3, at3 = at2 + 4 + s.size := ⟨_, rfl⟩
        dsimp only
        rw [← hat3] at hr2 hle3 ⊢
        have HT := Lib.hid hT
        have HR2 := Lib.hid hr2
        have HSS := Lib.hid (show s.size ≤ maxLen by unfold maxLen; omega)
        have HND := Lib.hid (HIH.out W1 at3 hle3 B (by have := HD1.out.size; omega) _ HV1.out)
        clear hT hr2 hat3 hn0 hn1 hn2
        go_wp2_with fail
        refine HND.out.mono ?_
        rintro e W2 ⟨hb2, v2, y, next, ok, rfl, hy, hm2⟩
        obtain ⟨ev, rfl, hes, hyd, hyk⟩ := hy
        obtain ⟨A3, c3, rfl, hlc3, hcm3⟩ := hes.form
        obtain ⟨W3, e3⟩ : ∃ W3, W3 = W2.alloc (.cells #[.int .u8 (y.k : Int), .string y.d, .slice A3 y.es.len c3] 24) := ⟨_, rfl⟩
        have hb3 : Below W2.heap.size W2 W3 := by rw [e3]; exact (Below.refl _ _).alloc (Nat.le_refl _) _
        have HD3 := Lib.hid ((HD1.out.step hb2).step hb3)
        have hnb3 : W3.heap[W2.heap.size]? = some (ndCells y.k y.d (.slice A3 y.es.len c3)) := by rw [e3]; exact heap_alloc_new _ _
        have hdl : done.len = i := HDI.out.len
        have H6 := Lib.hid (show (W2.alloc (.cells #[.int .u8 (y.k : Int), .string y.d, .slice A3 y.es.len c3] 24)).heap[w.heap.size]? = some (.cells #[.int .u8 0, .string ⟨#[]⟩, .slice none 0 0] 24 (0, 0)) from e3 ▸ HD3.out.box6)
        obtain ⟨hn0, hn1, hn2, hf0, hf1, hf2⟩ := nd_box (k := 4) (d := ⟨#[]⟩) (v := .slice A2 done.len c2) (show (W2.alloc (.cells #[.int .u8 (y.k : Int), .string y.d, .slice A3 y.es.len c3] 24)).heap[w.heap.size + 1]? = some (ndCells 4 ⟨#[]⟩ (.slice A2 done.len c2)) from e3 ▸ HD3.out.box9)
        clear hf0 hf1 hf2
        cases hN : rfN f (l.drop at3) with
        | none =>
          rw [hN] at hm2
          subst hm2
          have HF := Lib.hid (show dirF f (l.drop at') = none by rw [HRD.out, HDI.out.none2 hic HT.out (by rw [HR2.out]; exact hN)])
          clear hN hb2 hb3 hes hyd hyk hlc3 hcm3 hnb3 hdl
          go_wp2_with (refine wpList_store_row rfl _ _ _ rfl _ _ rfl rfl _ _ H6.out (by kernel_rfl) (by rfl) (by simp [Value.oneCell']) ?_)
          rw [← e3]
          refine bodyPost_ret (node_results3 rfl (cs := #[.int .u8 4, .string ⟨#[]⟩, .slice A2 done.len c2]) rfl (setRow_heap _ _ _ _ _ _ HD3.out.box6) rfl) rfl ?_
          rw [HF.out]
          exact HD3.out.fail
        | some p =>
          rw [hN] at hm2
          obtain ⟨rfl, rfl, hnx⟩ := hm2
          obtain ⟨xs0, hx0', _⟩ := HD1.out.own
          obtain ⟨xs, hx, hent⟩ := HD3.out.own
          have hes3 : EsS W3 (Nw W1 W2) (.slice A3 y.es.len c3) y.es := hes.keep fun b hb => ⟨hb, hb3.block b hb.2⟩
          have hQ : ∀ b, Nw W1 W2 b → w.heap.size + 2 ≤ b ∧ b < W3.heap.size ∧ (Value.slice A2 done.len c2).ownBlock ≠ some b := fun b hb => by
            have h1 := hb.1
            have h2 := hb.2
            have h3 := hb3.size
            have h4 := HD1.out.size
            exact ⟨by omega, by omega, fun e => by have := (hx0'.lt b e).2; omega⟩
          have HPS := Lib.hid (fun (w1 : World) (gg cc : Nat) (o : Obj) => DirI.push (w1 := w1) (g := gg) (cap := cc) (o := o) HD3.out hx hent hic HSS.out (by rw [HT.out, HR2.out]) hN hnx hes3 hQ hyd hyk)
          have HX := Lib.hid hx
          obtain ⟨hm0, hm1', hm2', _⟩ := nd_box (W := W2.alloc (.cells #[.int .u8 (y.k : Int), .string y.d, .slice A3 y.es.len c3] 24)) (k := y.k) (d := y.d) (v := .slice A3 y.es.len c3) (heap_alloc_new _ _)
          have HAL := Lib.hid (World.news_of_block (heap_alloc_new W3 (.cells #[.string s, .int .u8 (y.k : Int), .string y.d, .slice A3 y.es.len c3] 42)))
          have HZ3 := Lib.hid (show w.heap.size + 2 ≤ W3.heap.size from HD3.out.size)
          have H9 := Lib.hid (show ∀ o : Obj, (W3.alloc o).heap[w.heap.size + 1]? = some (ndCells 4 ⟨#[]⟩ (.slice A2 done.len c2)) from fun o => (old_block _ _ _ (by have := HZ3.out; omega)).trans HD3.out.box9)
          have HLT := Lib.hid (show ∀ b, (Value.slice A2 done.len c2).ownBlock = some b → w.heap.size + 2 ≤ b from fun b hb => (hx.lt b hb).1)
          clear hN hb2 hb3 hes hlc3 hcm3 hnb3 hx hent hes3 hQ hx0' hyd hyk hdl
          subst e3
          go_wp2_with (at_builtin; go_loud (refine wpList_append_lies _ rfl _ _ 22 rfl (w.heap.size + 2) 42 i0 _ 4 64 Try.underlying22 hi0 hz0 hz1 hz2 rfl (by decide) (.slice A2 done.len c2) i xs rfl (HX.out.alloc _) ⟨W2.heap.size + 1, 0, none⟩ 1 1 [.string s, .int .u8 (y.k : Int), .string y.d, .slice A3 y.es.len c3] rfl rfl (by simpa using HAL.out) (by simp [Value.oneCell']) (by decide) (by unfold maxLen; omega) (by omega) (by have := HZ3.out; simp at this ⊢; omega) _ rfl ?_; intro gg cc w1 hown1 hg1 hat1 hglt; have hbx := (hg1.block (w.heap.size + 1) (by have := HZ3.out; simp at this ⊢; omega) (fun e => by have := HLT.out _ e.symm; omega)).trans (H9.out _); have hfx := (nd_box (k := 4) (d := ⟨#[]⟩) hbx).2.2.2.2.2; have hcx := (nd_box (k := 4) (d := ⟨#[]⟩) hbx).2.2.1))
          have HQ := Lib.hid (HPS.out w1 gg cc _ hown1 hg1 hat1)
          go_roundg q
          case measure => omega
          case rel => exact ⟨i + 1, next, rfl, by simp, by omega, _, _, _, by have := HQ.out; have hl2 := this.len; rw [← hl2] at this ⊢; exact this⟩
end Go.Proofs.Ytcleebigfbbdbaa
