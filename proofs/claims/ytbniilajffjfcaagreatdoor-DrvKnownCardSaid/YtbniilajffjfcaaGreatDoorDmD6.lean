/- drv: Closure. -/
import Derived.Test.YtbniilajffjfcaaGreatDoorDmD5
set_option linter.unusedVariables false
set_option linter.unusedSimpArgs false
namespace Go.Proofs.YtbniilajffjfcaaGreatDoor
open Go.RowKit Go.BigFrame Go.Maps
open Drv (posO edges edgeAt dupB addNew closeF closeL)

theorem make_bools (n : Nat) (hn : n ≤ 4000000) (w : World) : (Instr.makeSlice 94 (.int .i64 n) (.int .i64 n)).run Tryz.prog w = .ok (.slice (some ⟨w.heap.size, 0, none⟩) n n) (w.alloc (.cells (madeCells #[.bool false] n) 4)) :=
  run_make_row' (P := Tryz.prog) 94 4 (.bool false) 1 Tryz.underlying94 (by kernel_rfl) rfl .i64 .i64 n (by omega) (by omega) w
/-- What of a call stands from where its walk began. -/
structure CloW (W1 W2 : World) (mb n sb cs lc : Nat) (v : Value) (rs : List (List Int)) : Prop where
  g : W2.heap[W1.heap.size]? = some (.cells #[.map (some mb), v] 80 (0, 0))
  rows : OutS IRow W2 (fun b => b < W1.heap.size + 1) v rs
  see : SeeW (W1.heap.size + 1) cs sb lc n W2 nilS (List.replicate n false) []
  ord : W1.heap.size < sb ∧ W1.heap.size < lc
  below : Below W1.heap.size W1 W2
theorem CloW.start (W1 : World) (mb n : Nat) (v : Value) (rs : List (List Int)) (hr : RowsAt W1 v rs) :
    CloW W1 ((((W1.alloc (.cells #[.map (some mb), v] 80)).alloc (.cells (madeCells #[.bool false] n) 4)).alloc (.cells #[.slice (some ⟨W1.heap.size + 1, 0, none⟩) n n] 94)).alloc (.cells #[nilS] 51)) mb n (W1.heap.size + 1) (W1.heap.size + 1 + 1) (W1.heap.size + 1 + 1 + 1) v rs := by
  have hb : Below W1.heap.size W1 ((((W1.alloc (.cells #[.map (some mb), v] 80)).alloc (.cells (madeCells #[.bool false] n) 4)).alloc (.cells #[.slice (some ⟨W1.heap.size + 1, 0, none⟩) n n] 94)).alloc (.cells #[nilS] 51)) := ((((Below.refl _ _).alloc (Nat.le_refl _) _).alloc (by simp) _).alloc (by simp <;> omega) _).alloc (by simp <;> omega) _
  refine ⟨?_, ?_, ⟨?_, ?_, new_at _ _ _ (by simp), World.ownsRow_nil _ _ _ _, by simp, fun i hi => by simp [List.getD, hi], by omega, ⟨by simp [nilS, Value.ownBlock], by simp [nilS, Value.ownBlock], by simp [nilS, Value.ownBlock]⟩, List.nodup_nil, by simp, by simp⟩, by omega, hb⟩
  · exact (Below.heap_alloc _ _ _ (by simp <;> omega)).trans ((Below.heap_alloc _ _ _ (by simp <;> omega)).trans ((Below.heap_alloc _ _ _ (by simp <;> omega)).trans (new_at _ _ _ (by simp <;> omega))))
  · obtain ⟨vs, h1, h2⟩ := OutS.below IRow.keeps hr hb
    obtain ⟨vs', h1', h2'⟩ := hr
    have h3 : OutS IRow W1 (fun b => b < W1.heap.size + 1) v rs := ⟨vs', h1'.weak fun b hb _ => by omega, h2'.weak IRow.keeps fun b hb _ => by omega⟩
    exact OutS.below IRow.keeps h3 hb
  · exact (Below.heap_alloc _ _ _ (by simp <;> omega)).trans (new_at _ _ _ (by simp <;> omega))
  · have h := (Below.heap_alloc ((W1.alloc (.cells #[.map (some mb), v] 80)).alloc (.cells (madeCells #[.bool false] n) 4)) (.cells #[.slice (some ⟨W1.heap.size + 1, 0, none⟩) n n] 94) (W1.heap.size + 1) (by simp <;> omega)).trans (new_at _ _ _ (by simp <;> omega))
    refine ((Below.heap_alloc _ _ _ (by simp <;> omega)).trans h).trans ?_
    rw [made_list]
    simp [boolsV]
theorem SeeM.ge {base cs sb lc n : Nat} {w : World} {lv : Value} {sf : List Bool} {got : List Nat} (H : SeeW base cs sb lc n w lv sf got) (h1 : base ≤ sb) (h2 : base ≤ lc) : ∀ k, SeeM sb lc lv k → base ≤ k := by
  rintro k (e | e | e)
  · omega
  · omega
  · exact (H.own.lt k e).1
theorem SeeW.below {base cs sb lc n : Nat} {w w' : World} {lv : Value} {sf : List Bool} {got : List Nat} (H : SeeW base cs sb lc n w lv sf got) (h : Below w.heap.size w w') : SeeW base cs sb lc n w' lv sf got :=
  ⟨(h.block _ (block_lt H.c1)).trans H.c1, (h.block _ (block_lt H.c2)).trans H.c2, (h.block _ (block_lt H.c3)).trans H.c3, own_below H.own h (Nat.le_refl _), H.ls, H.sf, H.ne, H.no, H.nodup, H.lt, Nat.le_trans H.bs h.size⟩
theorem SeeW.drew {base cs sb lc n : Nat} {w : World} {lv : Value} {sf : List Bool} {got : List Nat} (H : SeeW base cs sb lc n w lv sf got) : SeeW base cs sb lc n w.drew lv sf got :=
  ⟨H.c1, H.c2, H.c3, H.own.drew, H.ls, H.sf, H.ne, H.no, H.nodup, H.lt, H.bs⟩
theorem rows_get {names : List ByteArray} {needs : List (List ByteArray)} {q : Nat} (h : q < names.length) : (rowsOf names needs).getD q default = ofN (edgeAt names needs q) := by
  simp [rowsOf, List.getD, h]
theorem rows_len (names : List ByteArray) (needs : List (List ByteArray)) : (rowsOf names needs).length = names.length := by simp [rowsOf]
set_option maxRecDepth 100000 in
set_option maxHeartbeats 8000000 in
theorem closure_any (a b c : Value) (names : List ByteArray) (needs : List (List ByteArray)) (roots : List ByteArray) (w : World) (ha : TRow w AllB a names) (hb : TextsAt w b needs) (hc : TRow w AllB c roots) (hf : Few names needs) (hr : roots.length ≤ 100000) (hrs : Small roots) :
    Calls Tryz.prog 30 #[a, b, c] w (RowPost (closL names needs roots) (closC names) w) := by
  have HP := Lib.hid (fun (u : Value) (w' : World) (l : List Nat) (x : Int) (hl : l = closL names needs roots) (hx : x = closC names) (h1 : w'.ownsRow w.heap.size 3 1 u l.length (ints (ofN l))) (h2 : Below w.heap.size w w') => RowPost.of hl hx h1 h2)
  generalize RowPost (closL names needs roots) (closC names) w = post at *
  have HNG := Lib.hid (newGraph_any a b names needs w ha hb hf)
  have hn := hf.n
  have HCR := Lib.hid (fun (w2 : World) (h : Below w.heap.size w w2) => show TRow w2 AllB c roots from RdS.below hc h)
  obtain ⟨A, ca, rfl, hla, hma⟩ := RdS.form ha
  obtain ⟨C, cc, rfl, hlc, hmc⟩ := RdS.form hc
  obtain ⟨B, cb, rfl, hlb, hmb⟩ := OutS.form hb
  unfold maxLen at hma hmb hmc
  have HEL := Lib.hid (fun (i : Nat) => show (edgeAt names needs i).length ≤ 100000 from by
    unfold edgeAt
    refine Nat.le_trans (Drv.edges_len _ _) ?_
    by_cases h : i < needs.length
    · exact (hf.row _ (getD_row h)).1
    · rw [getD_nil h]; exact Nat.zero_le _)
  have HELT := Lib.hid (fun (j : Nat) (e : Nat) (h : e ∈ edgeAt names needs j) => Drv.edgeAt_lt h)
  have hmk := make_bools names.length (by omega)
  clear ha hb hc hf
  unfold NewPost at HNG
  go_enter Tryz.func30, Tryz.ntmps30
  go_wp2_with fail
  refine HNG.out.mono ?_
  rintro e w1 (⟨hd, rfl, hb1⟩ | ⟨hd, mb, v, rfl, hM, hR, hb1⟩)
  · have HL := Lib.hid (show ([] : List Nat) = closL names needs roots by unfold closL; rw [hd]; rfl)
    have HC := Lib.hid (show (151 : Int) = closC names by unfold closC; rw [hd]; rfl)
    have HB1 := Lib.hid hb1
    clear hd hb1
    go_wp2
    exact HP.out _ _ _ _ HL.out HC.out (World.ownsRow_nil _ _ _ _) (HB1.out.alloc HB1.out.size _)
  · have HL := Lib.hid (show closL names needs roots = closeL names.length (edgeAt names needs) (edges names roots) by unfold closL; rw [hd]; rfl)
    have HC := Lib.hid (show (0 : Int) = closC names by unfold closC; rw [hd]; rfl)
    have HMM := Lib.hid hM
    have HCS := Lib.hid (CloW.start w1 mb names.length v (rowsOf names needs) hR)
    have HB1 := Lib.hid hb1
    obtain ⟨G, cg, rfl, hlg, hmg⟩ := OutS.form hR
    rw [rows_len] at *
    clear hd hb1 hM hR
    go_upto_region 7 with (fail)
    obtain ⟨W2, hW2⟩ : ∃ W2, W2 = ((((w1.alloc (.cells #[.map (some mb), .slice G names.length cg] 80)).alloc (.cells (madeCells #[.bool false] names.length) 4)).alloc (.cells #[.slice (some ⟨w1.heap.size + 1, 0, none⟩) names.length names.length] 94)).alloc (.cells #[nilS] 51)) := ⟨_, rfl⟩
    rw [← hW2] at HCS
    have hW2' := hW2
    unfold nilS at hW2'
    rw [← hW2']
    clear hW2 hW2' hmk
    have HCR2 := Lib.hid (HCR.out W2 (HB1.out.trans (HCS.out.below.mono HB1.out.size)))
    have HPL := Lib.hid (places_any mb G names.length cg names roots _ W2 (HMM.out.below HCS.out.below) HCR2.out hrs (by omega))
    unfold PlacesPost at HPL
    have HED := Lib.hid (fun x (hx : x ∈ edges names roots) => Drv.edges_lt hx)
    have HEN := Lib.hid (Nat.le_trans (Drv.edges_len names roots) hr)
    have HC0 := Lib.hid (ClR.first (E := edgeAt names needs) HED.out)
    generalize edges names roots = R0 at *
    generalize w1.heap.size + 1 + 1 + 1 = lc at *
    generalize w1.heap.size + 1 + 1 = cs at *
    obtain ⟨sb, hsb⟩ : ∃ sb, sb = w1.heap.size + 1 := ⟨_, rfl⟩
    obtain ⟨hg0, hg1, _, _⟩ := cell_two HCS.out.g
    clear HCR HCR2 HNG HMM
    go_wp2_with fail
    refine HPL.out.mono ?_
    rintro e w3 ⟨u3, rfl, ho3, hb3⟩
    have HS3 := Lib.hid (HCS.out.see.below hb3)
    have HU3 := Lib.hid (show IRow w3 (fun b => ¬ SeeM (w1.heap.size + 1) lc nilS b) u3 (ofN R0) from RdS.weak (irow_own ho3) fun b _ hs => by
      rintro (h | h | h)
      · have := block_lt HCS.out.see.c2; omega
      · have := block_lt HCS.out.see.c3; omega
      · cases h)
    have HSE := Lib.hid (see_any _ cs _ lc names.length nilS _ [] R0 u3 w3 HS3.out HU3.out HED.out (by omega) (by have := HEN.out; omega))
    unfold SeePost at HSE
    go_wp2_with fail
    refine HSE.out.mono ?_
    rintro e w4 ⟨rfl, lv4, sf4, hs4, hch4, hmv4⟩
    have HS4 := Lib.hid hs4
    have HB4 := Lib.hid (show Below (w1.heap.size + 1) W2 w4 from (hb3.mono HCS.out.see.bs).trans (hch4.below HS3.out.bs (SeeM.ge HS3.out (Nat.le_refl _) (by have := HCS.out.ord; omega))))
    have HBW := Lib.hid (show Below w.heap.size w W2 from HB1.out.trans (HCS.out.below.mono HB1.out.size))
    have HBZ := Lib.hid HB1.out.size
    clear hs4 hch4 hmv4 hb3 ho3 HS3 HU3 HSE HPL HB1 hg0 hg1
    go_wp2
    go_loopw [13] (fun iv wr => ∃ (i : Nat) (lw : Value) (sw : List Bool) (got : List Nat), i ≤ names.length ∧ iv = .int .i64 (i : Int) ∧ Hid (ClR names.length (edgeAt names needs) R0 got i) ∧ Hid (SeeW (w1.heap.size + 1) cs (w1.heap.size + 1) lc names.length wr lw sw got) ∧ Hid (Below (w1.heap.size + 1) W2 wr)) (fun iv _ => names.length - (intOf iv).toNat)
    case atStart => exact ⟨0, lv4, sf4, addNew [] R0, by omega, rfl, HC0, HS4, HB4⟩
    case round =>
      clear HC0 HS4 HB4
      obtain ⟨i, lw, sw, got, hin, rfl, HCL, HS, HB⟩ := hrel
      have hgn := HCL.out.len
      obtain ⟨A5, c5, rfl⟩ := own_form HS.out.own
      have hl0 : wr.cell? ⟨lc, 0, none⟩ = some (.slice A5 got.length c5) := by rw [blk_cell HS.out.c3 0]; rfl
      obtain ⟨_, hg1, _, _⟩ := cell_two ((HB.out.block _ (by omega)).trans HCS.out.g)
      by_cases hlt : i < got.length
      · have hii : (i : Int) < (got.length : Int) := by omega
        obtain ⟨ad, rfl, hcx⟩ := IRow.get (irow_own HS.out.own) i (by rw [ofN_len]; exact hlt)
        rw [ofN_get got i hlt] at hcx
        have hgi := HCL.out.found.lt (got.getD i 0) (by simp [List.getD, hlt])
        have HNX := Lib.hid (HCL.out.next hlt HELT.out)
        have hel := HEL.out (got.getD i 0)
        have HILT := Lib.hid (show i < names.length by omega)
        have HROW := Lib.hid (OutS.keep IRow.keeps HCS.out.rows (w' := wr) ⟨HB.out.size, fun b _ hs => HB.out.block b hs⟩)
        generalize got.getD i 0 = q at *
        obtain ⟨adg, ug, rfl, hcu, hu⟩ := OutS.get HROW.out q (by rw [rows_len]; exact hgi)
        rw [rows_get hgi] at hu
        have HLT := Lib.hid (fun x (hx : x ∈ edgeAt names needs q) => HELT.out q x hx)
        obtain ⟨L, hL⟩ : ∃ L, L = edgeAt names needs q := ⟨_, rfl⟩
        rw [← hL] at HNX hel hu HLT
        clear hL
        have hqi : (q : Int) < (names.length : Int) := by omega
        obtain ⟨Au, cu, rfl, _, _⟩ := RdS.form hu
        rw [ofN_len] at *
        have hud : IRow wr.drew (fun b => b < w1.heap.size + 1) (.slice Au L.length cu) (ofN L) := hu
        have HSE := Lib.hid (see_any _ cs _ lc names.length _ sw got L _ wr.drew HS.out.drew (RdS.weak hud fun b _ hs => by
          rintro (h | h | h)
          · omega
          · have := HCS.out.ord; omega
          · have := (HS.out.own.lt b h).1; omega) HLT.out (by omega) (by omega))
        unfold SeePost at HSE
        clear hu hud HLT HROW
        go_upto_region 11 with (fail)
        go_region_law (go_simp; refine HSE.out.mono ?_; rintro e w5 ⟨rfl, lv5, sf5, hs5, hch5, hmv5⟩; dsimp only)
        all_goals
          have HS5 := Lib.hid hs5
          have HB5 := Lib.hid (HB.out.trans (show Below (w1.heap.size + 1) wr w5 from (show Below (w1.heap.size + 1) wr.drew w5 from hch5.below HS.out.bs (SeeM.ge HS.out (Nat.le_refl _) (by have := HCS.out.ord; omega)) |> fun h => ⟨h.os, h.tape, h.output, h.size, h.block⟩) |> fun h => ⟨h.os, h.tape, h.output, h.size, h.block⟩))
          clear hs5 hch5 hmv5
          go_wp2_with fail
          go_roundw
          case rel => exact ⟨i + 1, _, _, _, by have := HILT.out; omega, by go_num, HNX, HS5, HB5⟩
          case measure => (have := HILT.out; simp [intOf]; omega)
      · have hii : ¬ (i : Int) < (got.length : Int) := by omega
        have HLST := Lib.hid (HCL.out.last hlt)
        have HCLL := Lib.hid (show picked got names.length = closL names needs roots by rw [HL.out]; unfold closeL picked; rw [HLST.out])
        have HSO := Lib.hid (sortU (ofN got) _ _ wr (by rw [ofN_len]; exact HS.out.own) (by rw [ofN_len]; omega))
        unfold SortU at HSO
        rw [sort_picked _ _ HS.out.nodup HS.out.lt, ofN_len] at HSO
        go_wp2_with fail
        refine HSO.out.mono ?_
        rintro e w5 ⟨rfl, ho5, hch5⟩
        have HPL : Hid ((picked got names.length).length = got.length) := Lib.hid (by
          have h := congrArg List.length (sort_picked names.length got HS.out.nodup HS.out.lt)
          rw [List.length_mergeSort, ofN_len, ofN_len] at h
          exact h.symm)
        have HO5 := Lib.hid (show w5.ownsRow w.heap.size 3 1 (.slice A5 got.length c5) (picked got names.length).length (ints (ofN (picked got names.length))) by rw [HPL.out]; exact own_base ho5 (by have := HBZ.out; omega))
        have hch6 : Below (w1.heap.size + 1) wr w5 := hch5.below HS.out.bs fun k h => (HS.out.own.lt k h).1
        have HB5 := Lib.hid (HBW.out.trans ((HB.out.trans hch6).mono (by have := HBZ.out; omega)))
        have hl5 : w5.cell? ⟨lc, 0, none⟩ = some (.slice A5 got.length c5) := by rw [blk_cell (hch5.heap HS.out.c3 HS.out.no.2.2) 0]; rfl
        clear ho5 hch5 hch6 hl0 hg1
        go_wp2
        exact HP.out _ _ _ _ HCLL.out HC.out HO5.out HB5.out
end Go.Proofs.YtbniilajffjfcaaGreatDoor
