/- drv: Get, its walk. -/
import Derived.Test.YtbniilajffjfcaaGreatDoorDmL1
set_option linter.unusedVariables false
set_option linter.unusedSimpArgs false
namespace Go.Proofs.YtbniilajffjfcaaGreatDoor
open Go.RowKit Go.BigFrame

theorem three_set {w : World} {g : Nat} {T : TypeId} {a b c : Value} (h : w.heap[g]? = some (.cells #[a, b, c] T (0, 0))) (x y z : Value) :
    (((w.setCell ⟨g, 0, none⟩ x).setCell ⟨g, 1, none⟩ y).setCell ⟨g, 2, none⟩ z).heap[g]? = some (.cells #[x, y, z] T (0, 0)) := blk_set (blk_set (blk_set h 0 x) 1 y) 2 z
theorem three_below {B : Nat} {w w1 : World} {g : Nat} (h : Below B w w1) (hg : B ≤ g) (x y z : Value) : Below B w (((w1.setCell ⟨g, 0, none⟩ x).setCell ⟨g, 1, none⟩ y).setCell ⟨g, 2, none⟩ z) :=
  ((h.setCell (show B ≤ g from hg) _).setCell (show B ≤ g from hg) _).setCell (show B ≤ g from hg) _
theorem three_own {w : World} {g base size n : Nat} {e : TypeId} {v : Value} {xs : List Value} (h : w.ownsRow base e size v n xs) (hg : v.ownBlock ≠ some g) (x y z : Value) :
    (((w.setCell ⟨g, 0, none⟩ x).setCell ⟨g, 1, none⟩ y).setCell ⟨g, 2, none⟩ z).ownsRow base e size v n xs :=
  ownsRow_setCell_other (a := ⟨g, 2, none⟩) (ownsRow_setCell_other (a := ⟨g, 1, none⟩) (ownsRow_setCell_other (a := ⟨g, 0, none⟩) h hg x) hg y) hg z
theorem infoDrv : (Tryz.prog.info? 28).map (·.size) = some 3 := by kernel_rfl
def NumQ (b t1 : List UInt8) (g : Nat) (l : List UInt8) (bad : Bool) (w : World) (e : Ending) (w' : World) : Prop :=
  ∃ (kk : Nat) (l' : List UInt8) (bad' : Bool), e = .returned (.int .i64 (kk : Int)) ∧ Ch w w' (fun b => b = g) ∧ Rd w' g l' bad' ∧ l'.length ≤ l.length ∧ kk ≤ 65535 ∧ (P1 b t1 l bad → P2 b t1 l' kk bad')
theorem numQ_any (b t1 : List UInt8) (g : Nat) (l : List UInt8) (bad : Bool) (w : World) (H : Rd w g l bad) (hl : l.length ≤ 1000000000) :
    Calls Tryz.prog 44 #[.pointer (some ⟨g, 0, none⟩), .int .i64 2] w (NumQ b t1 g l bad w) := by
  refine (numberR_any g l bad 2 w H hl (by omega)).mono fun e w' h => ?_
  by_cases hc : bad = false ∧ 2 ≤ l.length
  · obtain ⟨rfl, hc⟩ := hc
    obtain ⟨h1, h2, h3⟩ := h.yes hc
    have := natOf_lt (l.take 2)
    rw [List.length_take, Nat.min_eq_left hc] at this
    exact ⟨_, _, false, h2, h1, h3, by simp, by omega, fun hp => p2_yes hp hc⟩
  · obtain ⟨h1, h2, h3⟩ := h.no hc
    exact ⟨0, l, true, h2, h1, h3, Nat.le_refl _, by omega, fun hp => p2_no hp hc l⟩
theorem Rd.ch {w w' : World} {g : Nat} {l : List UInt8} {bad : Bool} {M : Nat → Prop} (h : Rd w g l bad) (hc : Ch w w' M) (hm : ¬ M g) : Rd w' g l bad := hc.heap h hm
theorem strs_snoc (l : List ByteArray) (x : ByteArray) : strs (l ++ [x]) = strs l ++ [.string x] := by simp [strs]
/-- The inputs that are read so far, and all else that lies in memory. -/
structure GSt (w : World) (b t1 l2 : List UInt8) (kk gr gd B1 j : Nat) (iv : Value) (rs : List ByteArray) (l : List UInt8) (bad : Bool) (wr : World) : Prop where
  res : wr.heap[w.heap.size]? = some (.cells #[.string ⟨#[]⟩, .slice none 0 0, .string ⟨#[]⟩] 28 (0, 0))
  drv : wr.heap[gd]? = some (.cells #[.string (strOf t1), iv, .string ⟨#[]⟩] 28 (0, 0))
  rd : Rd wr gr l bad
  own : wr.ownsRow B1 9 1 iv rs.length (strs rs)
  len : rs.length = j
  below : Below w.heap.size w wr
  p3 : P3 b t1 l2 kk j rs l bad
  ll : l.length ≤ 1000000
  small : ∀ s ∈ rs, s.size ≤ 1000000
  ord : w.heap.size < gr ∧ gr < gd ∧ gd < B1 ∧ B1 ≤ wr.heap.size
theorem GSt.step {w : World} {b t1 l2 : List UInt8} {kk gr gd B1 j : Nat} {iv : Value} {rs : List ByteArray} {l : List UInt8} {bad : Bool} {wr : World} (H : GSt w b t1 l2 kk gr gd B1 j iv rs l bad wr) (hj : j < kk)
    {l' : List UInt8} {bad' : Bool} {w4 w5 : World} {v' : Value} (hc : Ch wr w4 (fun k => k = gr)) (hr : Rd w4 gr l' bad') (hle : l'.length ≤ l.length) (hs : TStep l bad l' bad')
    (ho : w5.ownsRow B1 9 1 v' (rs.length + 1) (strs rs ++ [.string (strOf (tT l bad))])) (hg : (w4.alloc (.cells #[.string (strOf (tT l bad))] 9)).grownBy w5 iv.ownBlock) (hm : Moved (w4.alloc (.cells #[.string (strOf (tT l bad))] 9)) iv v') :
    GSt w b t1 l2 kk gr gd B1 (j + 1) v' (rs ++ [strOf (tT l bad)]) l' bad' (w5.setCell ⟨gd, 1, none⟩ v') := by
  obtain ⟨o1, o2, o3, o4⟩ := H.ord
  have hB : ∀ k, iv.ownBlock = some k → B1 ≤ k := fun k e => (H.own.lt k e).1
  have hz4 : B1 ≤ w4.heap.size := Nat.le_trans o4 hc.size
  have keep : ∀ {k : Nat} {o : Obj}, wr.heap[k]? = some o → k ≠ gr → k < B1 → w5.heap[k]? = some o := fun {k o} h h1 h2 =>
    (hg.block k (by simp; omega) (fun e => by have := hB k e.symm; omega)).trans ((Below.heap_alloc _ _ _ (by omega)).trans (hc.heap h (fun e => h1 e)))
  have hres := keep H.res (by omega) (by omega)
  have hdrv := keep H.drv (by omega) (by omega)
  have hrd : w5.heap[gr]? = some _ := (hg.block gr (by simp; omega) (fun e => by have := hB gr e.symm; omega)).trans ((Below.heap_alloc _ _ _ (by omega)).trans hr)
  have hown : (w5.setCell ⟨gd, 1, none⟩ v').ownsRow B1 9 1 v' (rs.length + 1) (strs rs ++ [.string (strOf (tT l bad))]) :=
    ownsRow_setCell_other ho (a := ⟨gd, 1, none⟩) (fun e => by have := (ho.lt gd e).1; omega) v'
  refine ⟨(Below.heap_setCell _ _ _ _ (show w.heap.size ≠ gd by omega)).trans hres, blk_set hdrv 1 v', (Below.heap_setCell _ _ _ _ (show gr ≠ gd by omega)).trans hrd, ?_, by rw [List.length_append, H.len]; rfl, ?_, p3_step H.p3 hj hs, Nat.le_trans hle H.ll, ?_, ⟨o1, o2, o3, ?_⟩⟩
  · rw [strs_snoc, List.length_append]; exact hown
  · have hb4 : Below w.heap.size w w4 := (H.below.trans ((hc.below (by omega) (B := gr) (fun k e => by omega)).mono (by omega)))
    exact ((hb4.alloc (by omega) _).grown hg (by simp; omega) (fun k e => by have := hB k e; omega)).setCell (by show w.heap.size ≤ gd; omega) _
  · intro s hs'
    rcases List.mem_append.1 hs' with h | h
    · exact H.small s h
    · rw [List.mem_singleton.1 h, strOf_size]
      have := tT_len l bad
      have := H.ll
      omega
  · have := hg.size
    simp at this ⊢
    omega
set_option maxRecDepth 100000 in
set_option maxHeartbeats 4000000 in
theorem get_any (u : Value) (b : List UInt8) (w : World) (hu : Byt w u b) (hl : b.length ≤ 1000000) :
    Calls Tryz.prog 19 #[u] w (GetP b w) := by
  have HCV := Lib.hid (fun (w1 : World) (h : Below w.heap.size w w1) => (hu.below h).conv)
  obtain ⟨A, cap, rfl, hnc, hcm, _, _⟩ := hu
  have HNO := Lib.hid (fun (w' : World) (h : getS b = none) (hb : Below w.heap.size w w') => GetP.no h hb)
  have HYES := Lib.hid (fun (nm : ByteArray) (ins : List ByteArray) (rc : ByteArray) (v : Value) (w' : World) (h : getS b = some (nm, ins, rc)) (hb : Below w.heap.size w w') (ho : w'.ownsRow w.heap.size 9 1 v ins.length (strs ins)) => GetP.yes h hb ho)
  generalize GetP b w = post at *
  unfold maxLen at hcm
  have HCUT := Lib.hid (fun (w1 : World) => Tryz.strings_CutPrefix (strOf b) ⟨#[68, 82, 86, 49]⟩ w1)
  have HCUT2 : Hid (∀ w1, Calls Tryz.prog 42 #[.string (strOf b), .string ⟨#[68, 82, 86, 49]⟩] w1 fun e w' => e = .returned (.tuple #[.string (strOf (l0 b)), .bool (!b0 b)]) ∧ w' = w1) := Lib.hid fun w1 => by
    have h := HCUT.out w1
    rw [strOf_toList] at h
    unfold l0 b0
    cases hm : magic.isPrefixOf b
    · rw [if_neg (by simp)]
      obtain ⟨e1, e2⟩ := cut_no hm
      have e1' : (⟨(Lib.trimPrefix b (⟨#[68, 82, 86, 49]⟩ : ByteArray).data.toList).toArray⟩ : ByteArray) = strOf b := e1
      have e2' : Lib.hasPrefix b (⟨#[68, 82, 86, 49]⟩ : ByteArray).data.toList = false := e2
      rw [e1', e2'] at h
      exact h
    · rw [if_pos rfl]
      obtain ⟨e1, e2⟩ := cut_yes hm
      have e1' : (⟨(Lib.trimPrefix b (⟨#[68, 82, 86, 49]⟩ : ByteArray).data.toList).toArray⟩ : ByteArray) = strOf (b.drop 4) := e1
      have e2' : Lib.hasPrefix b (⟨#[68, 82, 86, 49]⟩ : ByteArray).data.toList = true := e2
      rw [e1', e2'] at h
      exact h
  have HL0 := Lib.hid (show (l0 b).length ≤ 1000000 by unfold l0; split; (rw [List.length_drop]; omega); exact hl)
  clear HCUT
  go_enter Tryz.func19, Tryz.ntmps19
  have hcv := HCV.out (w.alloc (.cells #[.string ⟨#[]⟩, .slice none 0 0, .string ⟨#[]⟩] 28)) ((Below.refl _ _).alloc (Nat.le_refl _) _)
  go_wp2_with fail
  refine (HCUT2.out _).mono ?_
  rintro e wz ⟨rfl, rfl⟩
  go_upto_region 3 with (fail)
  obtain ⟨w1, hw1, hg0, hg1, hb1, hz1⟩ := rows2 w (.cells #[.string ⟨#[]⟩, .slice none 0 0, .string ⟨#[]⟩] 28) (.cells #[.string (strOf (l0 b)), .bool (b0 b)] 67)
  rw [← hw1]
  clear hw1 hcv HCV HCUT2
  have HT1 := Lib.hid (textQ_any (w.heap.size + 1) (l0 b) (b0 b) w1 hg1 (by have := HL0.out; omega))
  have HB1 := Lib.hid hb1
  have HG0 := Lib.hid hg0
  clear hg0 hg1 hb1
  go_wp2_with fail
  refine HT1.out.mono ?_
  rintro e w2 ⟨l1, bad1, rfl, hc2, hr2, hle2, hst2⟩
  have HC2 := Lib.hid hc2
  have HR2 := Lib.hid hr2
  have HLE2 := Lib.hid hle2
  have HST2 := Lib.hid (p1_of hst2)
  have HTL := Lib.hid (tT_len (l0 b) (b0 b))
  generalize tT (l0 b) (b0 b) = t1 at *
  clear hc2 hr2 hle2 hst2 HT1
  go_upto_region 4 with (fail)
  obtain ⟨w3, hw3, hg3, hb3, hz3⟩ := row_new w2 (.cells #[.string (strOf t1), .slice none 0 0, .string ⟨#[]⟩] 28)
  rw [← hw3]
  have HR3 := Lib.hid (show Rd w3 (w.heap.size + 1) l1 bad1 from (hb3.block _ (by have := HC2.out.size; omega)).trans HR2.out)
  have HN := Lib.hid (numQ_any b t1 (w.heap.size + 1) l1 bad1 w3 HR3.out (by have := HL0.out; have := HLE2.out; omega))
  have HG3 := Lib.hid hg3
  have HRES3 := Lib.hid ((hb3.block w.heap.size (by have := HC2.out.size; omega)).trans (HC2.out.heap HG0.out (show ¬ w.heap.size = w.heap.size + 1 by omega)))
  have HB3 := Lib.hid (show Below w.heap.size w w3 from (HB1.out.trans ((HC2.out.below (by omega) (B := w.heap.size + 1) (fun k e => by omega)).mono (by omega))).trans (hb3.mono (by have := HC2.out.size; omega)))
  have hgd : w.heap.size + 1 < w2.heap.size := by have := HC2.out.size; omega
  have HZ3 := Lib.hid hz3
  clear hw3 hg3 hb3 hz3 HC2 HR2 HR3 HB1 HG0
  generalize w2.heap.size = gd at *
  go_wp2_with fail
  refine HN.out.mono ?_
  rintro e w4 ⟨kk, l2, bad2, rfl, hc4, hr4, hle4, hkk, hp2⟩
  have HG := Lib.hid (show GSt w b t1 l2 kk (w.heap.size + 1) gd w3.heap.size 0 (.slice none 0 0) [] l2 bad2 w4 from
    ⟨hc4.heap HRES3.out (show ¬ w.heap.size = w.heap.size + 1 by omega), hc4.heap HG3.out (show ¬ gd = w.heap.size + 1 by omega), hr4, World.ownsRow_nil _ _ _ _, rfl, HB3.out.trans ((hc4.below (by have := HZ3.out; omega) (B := w.heap.size + 1) (fun k e => by omega)).mono (by omega)), p3_start (hp2 HST2.out), by have := HL0.out; have := HLE2.out; omega, fun s h => by simp at h, ⟨by omega, hgd, by have := HZ3.out; omega, hc4.size⟩⟩)
  clear hc4 hr4 hle4 hp2 HN HG3 HRES3 HB3 HST2
  obtain ⟨i0, hi, hz0, hz1, hz2⟩ := info_parts infoStr
  have HI := Lib.hid hi
  have HZ0 := Lib.hid hz0
  have HZ1 := Lib.hid hz1
  have HZ2 := Lib.hid hz2
  clear hi hz0 hz1 hz2
  go_wp2
  go_loopw [24] (fun iv wr => ∃ (j : Nat) (v : Value) (rs : List ByteArray) (l : List UInt8) (bad : Bool), j ≤ kk ∧ iv = .int .i64 j ∧ Hid (GSt w b t1 l2 kk (w.heap.size + 1) gd w3.heap.size j v rs l bad wr)) (fun iv _ => kk - (intOf iv).toNat)
  case atStart => exact ⟨0, _, _, _, _, by omega, rfl, HG⟩
  case round =>
    clear HG
    obtain ⟨j, v, rs, l, bad, hj, rfl, HG⟩ := hrel
    by_cases hlt : j < kk
    · have hk' : (j : Int) < (kk : Int) := by omega
      have HT := Lib.hid (textQ_any (w.heap.size + 1) l bad wr.drew HG.out.rd (by have := HG.out.ll; omega))
      obtain ⟨hc0, hc1, hc2⟩ := three_cells HG.out.drv
      have hf1 := blk_free HG.out.drv 1
      obtain ⟨A, cap, hv⟩ := own_form HG.out.own
      subst hv
      have HOW := Lib.hid (fun (w4 : World) (h : Ch wr.drew w4 (fun k => k = w.heap.size + 1)) => show (w4.alloc (.cells #[.string (strOf (tT l bad))] 9)).ownsRow w3.heap.size 9 1 (.slice A rs.length cap) rs.length (strs rs) from ((h.own (HG.out.own.drew) fun k e e2 => by have := (HG.out.own.lt k e).1; have := HG.out.ord; omega).alloc _))
      go_wp2
      have HCL := Lib.hid (fun (w4 : World) (h : Ch wr.drew w4 (fun k => k = w.heap.size + 1)) => show w4.cell? ⟨gd, 1, none⟩ = some (.slice A rs.length cap) ∧ w4.frozen? ⟨gd, 1, none⟩ = false from by
        have h2 := h.heap (g := gd) HG.out.drv (fun e => by have := HG.out.ord; omega)
        exact ⟨(three_cells h2).2.1, blk_free h2 1⟩)
      have HCA := Lib.hid (fun (w4 : World) (h : Ch wr.drew w4 (fun k => k = w.heap.size + 1)) => show (w4.alloc (.cells #[.string (strOf (tT l bad))] 9)).cell? ⟨gd, 1, none⟩ = some (.slice A rs.length cap) ∧ (w4.alloc (.cells #[.string (strOf (tT l bad))] 9)).frozen? ⟨gd, 1, none⟩ = false ∧ gd < (w4.alloc (.cells #[.string (strOf (tT l bad))] 9)).heap.size from by
        have h2 := h.heap (g := gd) HG.out.drv (fun e => by have := HG.out.ord; omega)
        have h3 := (old_block w4 (.cells #[.string (strOf (tT l bad))] 9) gd (block_lt h2)).trans h2
        exact ⟨(three_cells h3).2.1, blk_free h3 1, block_lt h3⟩)
      have HNE := Lib.hid (show (Value.slice A rs.length cap).ownBlock ≠ some gd from fun e => by have := (HG.out.own.lt gd e).1; have := HG.out.ord; omega)
      have HRL := Lib.hid (show rs.length ≤ 65535 by rw [HG.out.len]; omega)
      have HBS := Lib.hid (fun (w4 : World) (h : Ch wr.drew w4 (fun k => k = w.heap.size + 1)) => show w3.heap.size ≤ (w4.alloc (.cells #[.string (strOf (tT l bad))] 9)).heap.size from by have := HG.out.ord.2.2.2; have := h.size; simp at this ⊢; omega)
      go_region_law (first | (go_simp; refine HT.out.mono ?_; rintro e w4 ⟨l', bad', rfl, hc4, hr4, hle4, hst4⟩; obtain ⟨hx4, hy4⟩ := HCL.out w4 hc4; obtain ⟨ha1, ha2, ha3⟩ := HCA.out w4 hc4; dsimp only) | ((refine step_append_lies _ (by rfl) _ _ _ (by rfl) w3.heap.size 9 i0 _ 1 16 Tryz.underlying25 HI.out HZ0.out HZ1.out HZ2.out rfl (by omega) (.slice A rs.length cap) rs.length (strs rs) (by rfl) (HOW.out _ (by assumption)) ⟨w4.heap.size, 0, none⟩ 1 1 [.string (strOf (tT l bad))] (by rfl) (by rfl) (World.news_of_block (cs := #[.string (strOf (tT l bad))]) (t := 9) (fr := (0, 0)) (heap_alloc_new w4 _)) (by intro u hu; simp at hu; subst hu; rfl) (by omega) (by have := HRL.out; unfold maxLen; omega) (by have := HRL.out; omega) (HBS.out _ (by assumption)) (w4.heap.size + 1) (by simp) ?_); intro gg cap5 w5 hown5 hgrow5 hat5 hlt5; have hx5 := (hgrow5.cell_far ⟨gd, 1, none⟩ ha3 (fun e => HNE.out e.symm)).trans ha1; have hy5 := (hgrow5.frozen_far ⟨gd, 1, none⟩ ha3 (fun e => HNE.out e.symm)).trans ha2))
      all_goals
        have HG5 := Lib.hid (HG.out.step hlt (w4 := w4) (w5 := w5) (v' := .slice (some ⟨gg, 0, none⟩) (rs.length + 1) cap5) (l' := l') (bad' := bad') (by have h := hc4; exact ⟨h.os, h.tape, h.output, h.size, h.block⟩) hr4 hle4 hst4 hown5 hgrow5 (by
          rcases hat5 with h | h
          · exact .inl h.symm
          · exact .inr ⟨gg, rfl, by simp; omega⟩))
        clear hc4 hr4 hle4 hst4 hown5 hgrow5 hat5 hlt5 hx4 hy4 hx5 hy5 ha1 ha2 ha3
        go_wp2_with fail
        go_roundw
        case rel => exact ⟨j + 1, _, _, _, _, by omega, by go_num, HG5⟩
        case measure => simp [intOf]; omega
    · obtain rfl : j = kk := by omega
      have hk' : ¬ (j : Int) < (j : Int) := by omega
      have HT := Lib.hid (textQ_any (w.heap.size + 1) l bad wr HG.out.rd (by have := HG.out.ll; omega))
      go_wp2_with fail
      refine HT.out.mono ?_
      rintro e w4 ⟨l', bad', rfl, hc4, hr4, hle4, hst4⟩
      have HEND := Lib.hid (p3_end HG.out.p3 hst4)
      obtain ⟨A, cap, hv⟩ := own_form HG.out.own
      subst hv
      have hres := hc4.heap HG.out.res (fun e => by have := HG.out.ord; omega)
      have hdrv := hc4.heap HG.out.drv (fun e => by have := HG.out.ord; omega)
      have hown := hc4.own HG.out.own (fun k e e2 => by have := (HG.out.own.lt k e).1; have := HG.out.ord; omega)
      have HT4 := Lib.hid (show (tT l bad).length ≤ 1000000 from Nat.le_trans (tT_len l bad) HG.out.ll)
      have HSM := Lib.hid (fun (s : ByteArray) (hs : s ∈ rs) => show s.size ≤ maxLen from by have := HG.out.small s hs; unfold maxLen; omega)
      have HB4 := Lib.hid (HG.out.below.trans ((hc4.below (by have := HG.out.ord; omega) (B := w.heap.size + 1) (fun k e => by omega)).mono (by omega)))
      have HO := Lib.hid HG.out.ord
      have hz4 := hc4.size
      have HHR := Lib.hid hr4
      have HHO := Lib.hid hown
      have HHD := Lib.hid hdrv
      have HHS := Lib.hid hres
      generalize tT l bad = t4 at *
      obtain ⟨hd0, hd1, hd2⟩ := three_cells hdrv
      have hf2 := blk_free hdrv 2
      clear hc4 hr4 hle4 hst4 HT hdrv hres hown HG
      go_upto_region 9 with (fail)
      obtain ⟨w5, hw5⟩ : ∃ w5, w5 = w4.setCell ⟨gd, 2, none⟩ (.string (strOf t4)) := ⟨_, rfl⟩
      rw [← hw5]
      have HD5 := Lib.hid (show w5.heap[gd]? = some (.cells #[.string (strOf t1), .slice A rs.length cap, .string (strOf t4)] 28 (0, 0)) by rw [hw5]; exact blk_set HHD.out 2 _)
      have HR5 := Lib.hid (show Rd w5 (w.heap.size + 1) l' bad' by rw [hw5]; exact (Below.heap_setCell _ _ _ _ (show w.heap.size + 1 ≠ gd by have := HO.out; omega)).trans HHR.out)
      have HS5 := Lib.hid (show w5.heap[w.heap.size]? = some (.cells #[.string ⟨#[]⟩, .slice none 0 0, .string ⟨#[]⟩] 28 (0, 0)) by rw [hw5]; exact (Below.heap_setCell _ _ _ _ (show w.heap.size ≠ gd by have := HO.out; omega)).trans HHS.out)
      have HO5 := Lib.hid (show w5.ownsRow w3.heap.size 9 1 (.slice A rs.length cap) rs.length (strs rs) by rw [hw5]; exact ownsRow_setCell_other HHO.out (a := ⟨gd, 2, none⟩) (fun e => by have := (HHO.out.lt gd e).1; have := HO.out; omega) _)
      have HB5 := Lib.hid (show Below w.heap.size w w5 by rw [hw5]; exact HB4.out.setCell (by show w.heap.size ≤ gd; have := HO.out; omega) _)
      have HRT := Lib.hid (right_drv (strOf t1) (.slice A rs.length cap) rs (strOf t4) w5 (RdS.own HO5.out).all HSM.out (by rw [strOf_size]; have := HTL.out; have := HL0.out; unfold maxLen; omega) (by rw [strOf_size]; have := HT4.out; unfold maxLen; omega))
      clear hw5 hd0 hd1 hd2 hf2 HHR HHD HHS HHO HB4
      obtain ⟨hr0, hr1, _, _⟩ := cell_two HR5.out
      obtain ⟨hd0, hd1, hd2⟩ := three_cells HD5.out
      obtain ⟨hs0, hs1, hs2⟩ := three_cells HS5.out
      have hsf0 := blk_free HS5.out 0
      have hsf1 := blk_free HS5.out 1
      have hsf2 := blk_free HS5.out 2
      cases bad' with
      | true =>
        have HNN := Lib.hid (show getS b = none by rw [HEND.out, if_neg (fun e => by cases e.1)])
        go_wp2_with fail
        exact bodyPost_ret (v := .tuple #[.agg #[.string ⟨#[]⟩, .slice none 0 0, .string ⟨#[]⟩], .int .i64 150]) (results_cell_tmp Tryz.results19 _ _ w.heap.size 28 _ (0, 0) _ _ rfl rfl (three_set HS5.out _ _ _) Tryz.underlying28 rfl infoDrv) rfl (HNO.out _ HNN.out (three_below HB5.out (Nat.le_refl _) _ _ _))
      | false =>
        by_cases hnil : l' = []
        · subst hnil
          cases hrd : rightD (strOf t1) rs (strOf t4)
          · rw [hrd] at HRT
            have HNN := Lib.hid (show getS b = none by rw [HEND.out, if_neg (fun e => by have := e.2.2; rw [hrd] at this; cases this)])
            have hr0' : w5.cell? ⟨w.heap.size + 1, 0, none⟩ = some (.string ⟨#[]⟩) := hr0
            clear hr0 hrd
            go_wp2_with fail
            refine HRT.out.mono ?_
            rintro e w6 ⟨rfl, hb6⟩
            have HS6 := Lib.hid ((hb6.block _ (block_lt HS5.out)).trans HS5.out)
            have HB6 := Lib.hid (below_step HB5.out hb6 HB5.out.size)
            have hs6 := three_cells HS6.out
            obtain ⟨hs60, hs61, hs62⟩ := hs6
            have hsg0 := blk_free HS6.out 0
            have hsg1 := blk_free HS6.out 1
            have hsg2 := blk_free HS6.out 2
            clear hb6 hr0' hr1 hd0 hd1 hd2 hs0 hs1 hs2 hsf0 hsf1 hsf2
            go_wp2_with fail
            exact bodyPost_ret (v := .tuple #[.agg #[.string ⟨#[]⟩, .slice none 0 0, .string ⟨#[]⟩], .int .i64 150]) (results_cell_tmp Tryz.results19 _ _ w.heap.size 28 _ (0, 0) _ _ rfl rfl (three_set HS6.out _ _ _) Tryz.underlying28 rfl infoDrv) rfl (HNO.out _ HNN.out (three_below HB6.out (Nat.le_refl _) _ _ _))
          · rw [hrd] at HRT
            have HNN := Lib.hid (show getS b = some (strOf t1, rs, strOf t4) by rw [HEND.out, if_pos ⟨rfl, rfl, hrd⟩])
            have hr0' : w5.cell? ⟨w.heap.size + 1, 0, none⟩ = some (.string ⟨#[]⟩) := hr0
            clear hr0 hrd
            go_wp2_with fail
            refine HRT.out.mono ?_
            rintro e w6 ⟨rfl, hb6⟩
            have HS6 := Lib.hid ((hb6.block _ (block_lt HS5.out)).trans HS5.out)
            have HD6 := Lib.hid ((hb6.block _ (block_lt HD5.out)).trans HD5.out)
            have HO6 := Lib.hid (own_below HO5.out hb6 (Nat.le_refl _))
            have HB6 := Lib.hid (below_step HB5.out hb6 HB5.out.size)
            obtain ⟨hs60, hs61, hs62⟩ := three_cells HS6.out
            obtain ⟨hd60, hd61, hd62⟩ := three_cells HD6.out
            have hsg0 := blk_free HS6.out 0
            have hsg1 := blk_free HS6.out 1
            have hsg2 := blk_free HS6.out 2
            have HOF := Lib.hid (three_own HO6.out (g := w.heap.size) (fun e => by have := (HO6.out.lt _ e).1; have := HO.out; omega) (.string (strOf t1)) (.slice A rs.length cap) (.string (strOf t4)))
            clear hb6 hr0' hr1 hd0 hd1 hd2 hs0 hs1 hs2 hsf0 hsf1 hsf2
            go_wp2_with fail
            exact bodyPost_ret (v := .tuple #[.agg #[.string (strOf t1), .slice A rs.length cap, .string (strOf t4)], .int .i64 0]) (results_cell_tmp Tryz.results19 _ _ w.heap.size 28 _ (0, 0) _ _ rfl rfl (three_set HS6.out _ _ _) Tryz.underlying28 rfl infoDrv) rfl (HYES.out _ _ _ _ _ HNN.out (three_below HB6.out (Nat.le_refl _) _ _ _) (own_base HOF.out (by have := HO.out; omega)))
        · have HNN := Lib.hid (show getS b = none by rw [HEND.out, if_neg (fun e => hnil e.2.1)])
          have hne : (strOf l').toList.isEmpty = false := by
            rw [Lib.toList_data, strOf_toList]
            cases l' with
            | nil => exact absurd rfl hnil
            | cons a l => rfl
          have hne2 : ¬ (strOf l').toList = [] := by
            rw [Lib.toList_data, strOf_toList]; exact hnil
          clear hnil
          go_wp2_with fail
          exact bodyPost_ret (v := .tuple #[.agg #[.string ⟨#[]⟩, .slice none 0 0, .string ⟨#[]⟩], .int .i64 150]) (results_cell_tmp Tryz.results19 _ _ w.heap.size 28 _ (0, 0) _ _ rfl rfl (three_set HS5.out _ _ _) Tryz.underlying28 rfl infoDrv) rfl (HNO.out _ HNN.out (three_below HB5.out (Nat.le_refl _) _ _ _))
end Go.Proofs.YtbniilajffjfcaaGreatDoor
