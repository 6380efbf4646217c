/- drv: newGraph. -/
import Derived.Test.YtbniilajffjfcaaGreatDoorDmD3
import Derived.Deep.DeepCutAuto
import Derived.Deep.RegionLaw
import Derived.Deep.RegionHeld3
set_option linter.unusedVariables false
set_option linter.unusedSimpArgs false
namespace Go.Proofs.YtbniilajffjfcaaGreatDoor
open Go.RowKit Go.BigFrame Go.Maps
open Drv (posO edges edgeAt dupB)

def nilS : Value := .slice none 0 0
theorem make_rows (n : Nat) (hn : n ≤ 4000000) (w : World) : (Instr.makeSlice 78 (.int .i64 n) (.int .i64 n)).run Tryz.prog w = .ok (.slice (some ⟨w.heap.size, 0, none⟩) n n) (w.alloc (.cells (madeCells #[.slice none 0 0] n) 51)) :=
  run_make_row' (P := Tryz.prog) 78 51 (.slice none 0 0) 24 Tryz.underlying78 (by kernel_rfl) rfl .i64 .i64 n (by omega) (by omega) w
theorem made_list (z : Value) (n : Nat) : madeCells #[z] n = (List.replicate n z).toArray := by
  apply Array.ext'
  rw [toList_madeCells_one]
theorem infoGraph : (Tryz.prog.info? 80).map (·.size) = some 2 := by kernel_rfl
/-- A graph while it is made: its struct, its map, its rows. -/
structure GrA (w : World) (mb rb gb n : Nat) (l : List ByteArray) (rows : List Value) (rs : List (List Int)) (wr : World) : Prop where
  res : wr.heap[w.heap.size]? = some (.cells #[.map none, .slice none 0 0] 80 (0, 0))
  map : MapIs wr mb l
  blk : wr.heap[gb]? = some (.cells #[.map (some mb), .slice (some ⟨rb, 0, none⟩) n n] 80 (0, 0))
  rw : wr.heap[rb]? = some (.cells rows.toArray 51 (0, 0))
  rl : rows.length = n
  sl : rs.length = n
  it : ∀ j, j < n → IRow wr (fun b => gb < b) (rows.getD j nilS) (rs.getD j [])
  below : Below w.heap.size w wr
  ord : w.heap.size < mb ∧ mb < rb ∧ rb < gb
theorem new_at (W : World) (o : Obj) (i : Nat) (h : i = W.heap.size) : (W.alloc o).heap[i]? = some o := by subst h; exact heap_alloc_new W o
theorem GrA.start (w : World) (n : Nat) : GrA w (w.heap.size + 1) (w.heap.size + 1 + 1) (w.heap.size + 1 + 1 + 1) n [] (List.replicate n nilS) (List.replicate n []) ((((w.alloc (.cells #[.map none, .slice none 0 0] 80)).alloc (.map #[] 0)).alloc (.cells (madeCells #[.slice none 0 0] n) 51)).alloc (.cells #[.map (some (w.heap.size + 1)), .slice (some ⟨w.heap.size + 1 + 1, 0, none⟩) n n] 80)) := by
  refine ⟨?_, ?_, new_at _ _ _ (by simp), ?_, by simp, by simp, fun j hj => ?_, ((((Below.refl _ _).alloc (Nat.le_refl _) _).alloc (by simp) _).alloc (by simp <;> omega) _).alloc (by simp <;> omega) _, by omega⟩
  · exact (Below.heap_alloc _ _ _ (by simp <;> omega)).trans ((Below.heap_alloc _ _ _ (by simp <;> omega)).trans ((Below.heap_alloc _ _ _ (by simp <;> omega)).trans (new_at _ _ _ (by simp <;> omega))))
  · have h := MapIs.made (w.alloc (.cells #[.map none, .slice none 0 0] 80))
    have e : (w.alloc (.cells #[.map none, .slice none 0 0] 80)).heap.size = w.heap.size + 1 := by simp
    rw [e] at h
    exact h.block ((Below.heap_alloc _ _ _ (by simp <;> omega)).trans (Below.heap_alloc _ _ _ (by simp <;> omega)))
  · rw [made_list]
    exact (Below.heap_alloc _ _ _ (by simp <;> omega)).trans (new_at _ _ _ (by simp <;> omega))
  · have h1 : (List.replicate n nilS).getD j nilS = nilS := by simp [List.getD, hj]
    have h2 : (List.replicate n ([] : List Int)).getD j [] = [] := by simp [List.getD, hj]
    rw [h1, h2]
    exact RdS.nil _ _
/-- The map has grown. -/
theorem GrA.grown {w : World} {mb rb gb n : Nat} {l : List ByteArray} {rows : List Value} {rs : List (List Int)} {wr w1 : World} (H : GrA w mb rb gb n l rows rs wr) {l' : List ByteArray} (hm : MapIs w1 mb l') (hg : wr.grownBy w1 (some mb)) : GrA w mb rb gb n l' rows rs w1 := by
  obtain ⟨o1, o2, o3⟩ := H.ord
  have keep : ∀ {k : Nat} {o : Obj}, wr.heap[k]? = some o → k ≠ mb → w1.heap[k]? = some o := fun {k o} h h1 => (hg.block k (block_lt h) (fun e => h1 (by simpa using e))).trans h
  exact ⟨keep H.res (by omega), hm, keep H.blk (by omega), keep H.rw (by omega), H.rl, H.sl, fun j hj => RdS.keep (H.it j hj) ((SameS.grown hg).weak fun b _ hs e => by cases e; omega), H.below.grown hg (Nat.le_trans (Nat.le_of_lt (block_lt H.res)) (Nat.le_refl _)) (fun g e => by cases e; omega), H.ord⟩
/-- One more row. -/
theorem GrA.row {w : World} {mb rb gb n : Nat} {l : List ByteArray} {rows : List Value} {rs : List (List Int)} {wr w4 : World} (H : GrA w mb rb gb n l rows rs wr) {i : Nat} (hi : i < n) {u : Value} {c : List Int} (hb : Below wr.heap.size wr w4) (hu : IRow w4 (fun b => wr.heap.size ≤ b) u c) :
    GrA w mb rb gb n l (rows.set i u) (rs.set i c) (w4.setCell ⟨rb, i, none⟩ u) := by
  obtain ⟨o1, o2, o3⟩ := H.ord
  have hgl := block_lt H.blk
  have keep : ∀ {k : Nat} {o : Obj}, wr.heap[k]? = some o → k ≠ rb → (w4.setCell ⟨rb, i, none⟩ u).heap[k]? = some o := fun {k o} h h1 => (Below.heap_setCell _ _ _ _ (show k ≠ rb from h1)).trans ((hb.block k (block_lt h)).trans h)
  have hs : SameS w4 (w4.setCell ⟨rb, i, none⟩ u) (fun b => gb < b) := ⟨by simp, fun b _ hgb => Below.heap_setCell _ _ _ _ (show b ≠ rb by omega)⟩
  refine ⟨keep H.res (by omega), ?_, keep H.blk (by omega), ?_, by rw [List.length_set]; exact H.rl, by rw [List.length_set]; exact H.sl, fun j hj => ?_, ?_, H.ord⟩
  · exact (H.map.below hb).block (Below.heap_setCell _ _ _ _ (show mb ≠ rb by omega))
  · have h := blk_set ((hb.block rb (by omega)).trans H.rw) i u
    rw [h]
    simp [List.setIfInBounds_toArray]
  · have h1 : IRow w4 (fun b => gb < b) ((rows.set i u).getD j nilS) ((rs.set i c).getD j []) := by
      rw [List.getD_eq_getElem?_getD, List.getD_eq_getElem?_getD, List.getElem?_set, List.getElem?_set]
      by_cases e : i = j
      · subst e
        rw [if_pos rfl, if_pos rfl, if_pos (by rw [H.rl]; exact hi), if_pos (by rw [H.sl]; exact hi)]
        exact RdS.weak hu fun b _ h => by omega
      · rw [if_neg e, if_neg e, ← List.getD_eq_getElem?_getD, ← List.getD_eq_getElem?_getD]
        exact RdS.below (H.it j hj) hb
    exact RdS.keep h1 hs
  · exact (below_step H.below hb H.below.size).setCell (show w.heap.size ≤ rb by omega) _
/-- The result's cells are written: all else stands. -/
theorem GrA.ret {w : World} {mb rb gb n : Nat} {l : List ByteArray} {rows : List Value} {rs : List (List Int)} {wr : World} (H : GrA w mb rb gb n l rows rs wr) (hn : n ≤ maxLen) (x y : Value) :
    MapIs ((wr.setCell ⟨w.heap.size, 0, none⟩ x).setCell ⟨w.heap.size, 1, none⟩ y) mb l ∧ RowsAt ((wr.setCell ⟨w.heap.size, 0, none⟩ x).setCell ⟨w.heap.size, 1, none⟩ y) (.slice (some ⟨rb, 0, none⟩) n n) rs := by
  obtain ⟨o1, o2, o3⟩ := H.ord
  have hb : ∀ k, k ≠ w.heap.size → ((wr.setCell ⟨w.heap.size, 0, none⟩ x).setCell ⟨w.heap.size, 1, none⟩ y).heap[k]? = wr.heap[k]? := fun k hk => (Below.heap_setCell _ _ _ _ (show k ≠ w.heap.size from hk)).trans (Below.heap_setCell _ _ _ _ (show k ≠ w.heap.size from hk))
  refine ⟨H.map.block (hb mb (by omega)), ?_⟩
  refine ⟨rows, ⟨some ⟨rb, 0, none⟩, n, by rw [H.sl], by rw [H.sl]; exact Nat.le_refl _, hn, (fun e => by cases e), fun _ => ⟨_, rfl, by simpa using block_lt H.rw, trivial, fun j u hu => ?_⟩⟩, by rw [H.rl, H.sl], fun q u x' hu hx => ?_⟩
  · have hadd : (⟨rb, 0, none⟩ : Addr).add j = ⟨rb, j, none⟩ := by unfold Addr.add; split <;> simp_all
    rw [hadd, blk_cell ((hb rb (by omega)).trans H.rw) j, List.getElem?_toArray]; exact hu
  · have hq : q < n := by
      rw [← H.rl]
      by_cases c : q < rows.length
      · exact c
      · rw [List.getElem?_eq_none (by omega)] at hu; cases hu
    have e1 : rows.getD q nilS = u := by simp [List.getD, hu]
    have e2 : rs.getD q [] = x' := by simp [List.getD, hx]
    have h0 := RdS.keep (H.it q hq) (w' := (wr.setCell ⟨w.heap.size, 0, none⟩ x).setCell ⟨w.heap.size, 1, none⟩ y) ⟨by simp, fun b _ hs => hb b (by omega)⟩
    have := RdS.all h0
    rwa [e1, e2] at this
def rowsOf (names : List ByteArray) (needs : List (List ByteArray)) : List (List Int) := (List.range names.length).map fun j => ofN (edgeAt names needs j)
def NewPost (names : List ByteArray) (needs : List (List ByteArray)) (w : World) (e : Ending) (w' : World) : Prop :=
  (dupB names = true ∧ e = .returned (.tuple #[.agg #[.map none, .slice none 0 0], .bool false]) ∧ Below w.heap.size w w') ∨
  (dupB names = false ∧ ∃ mb v, e = .returned (.tuple #[.agg #[.map (some mb), v], .bool true]) ∧ MapIs w' mb names ∧ RowsAt w' v (rowsOf names needs) ∧ Below w.heap.size w w')
set_option maxRecDepth 100000 in
set_option maxHeartbeats 4000000 in
theorem newGraph_any (a b : Value) (names : List ByteArray) (needs : List (List ByteArray)) (w : World) (ha : TRow w AllB a names) (hb : TextsAt w b needs) (hf : Few names needs) :
    Calls Tryz.prog 49 #[a, b] w (NewPost names needs w) := by
  have HNO := Lib.hid (fun (w' : World) (h : dupB names = true) (hb : Below w.heap.size w w') => show NewPost names needs w _ w' from .inl ⟨h, rfl, hb⟩)
  have HYES := Lib.hid (fun (w' : World) (mb : Nat) (v : Value) (h : dupB names = false) (h1 : MapIs w' mb names) (h2 : RowsAt w' v (rowsOf names needs)) (hb : Below w.heap.size w w') => show NewPost names needs w _ w' from .inr ⟨h, mb, v, rfl, h1, h2, hb⟩)
  generalize NewPost names needs w = post at *
  have HA := Lib.hid ha
  have HB := Lib.hid hb
  obtain ⟨A, ca, rfl, hla, hma⟩ := RdS.form ha
  obtain ⟨B, cb, rfl, hlb, hmb⟩ := OutS.form hb
  unfold maxLen at hma hmb
  have hn := hf.n
  have hmk := make_rows names.length (by omega)
  have HS := Lib.hid hf.small
  have HST := Lib.hid (GrA.start w names.length)
  have hmm := @run_makeMap Tryz.prog
  clear ha hb
  go_enter Tryz.func49, Tryz.ntmps49
  go_upto_region 2 with (fail)
  obtain ⟨W1, hW1⟩ : ∃ W1, W1 = ((((w.alloc (.cells #[.map none, .slice none 0 0] 80)).alloc (.map #[] 0)).alloc (.cells (madeCells #[.slice none 0 0] names.length) 51)).alloc (.cells #[.map (some (w.heap.size + 1)), .slice (some ⟨w.heap.size + 1 + 1, 0, none⟩) names.length names.length] 80)) := ⟨_, rfl⟩
  rw [← hW1] at HST ⊢
  clear hW1 hmk hmm
  generalize w.heap.size + 1 + 1 + 1 = gb at *
  generalize w.heap.size + 1 + 1 = rb at *
  generalize w.heap.size + 1 = mb at *
  have hzr := zeroInt
  go_wp2
  go_loopw [19] (fun kv wr => ∃ k : Nat, k ≤ names.length ∧ kv = .int .i64 k ∧ Hid ((names.take k).Nodup) ∧ Hid (GrA w mb rb gb names.length (names.take k) (List.replicate names.length nilS) (List.replicate names.length []) wr)) (fun kv _ => names.length - (intOf kv).toNat)
  case atStart => exact ⟨0, by omega, rfl, Lib.hid (by simp), HST⟩
  case round =>
    clear HST
    obtain ⟨k, hk, rfl, HN, HG⟩ := hrel
    by_cases hlt : k < names.length
    · obtain ⟨ad, rfl, hcx⟩ := TRow.get (RdS.below HA.out HG.out.below) k hlt
      have hsz := HS.out.at hlt
      have HT := Lib.hid (Drv.take_snoc names k _ (getD_at hlt))
      have HAT := Lib.hid (getD_at hlt)
      have HTL := Lib.hid (show (names.take k).length = k by rw [List.length_take]; omega)
      generalize names.getD k ⟨#[]⟩ = s at *
      obtain ⟨hc0, _, _, _⟩ := cell_two HG.out.blk
      have hk' : (k : Int) < (names.length : Int) := by omega
      cases hpos : posO (names.take k) s with
      | some i =>
        have HD := Lib.hid (Drv.dup_some HAT.out (List.mem_of_getElem? (Drv.posO_some _ _ _ hpos)))
        have HPN := Lib.hid hpos
        have HRES := Lib.hid HG.out.res
        have HBW := Lib.hid HG.out.below
        clear HT hpos HN HTL
        obtain ⟨hr0, hr1, hr2, hr3⟩ := cell_two HG.out.res
        have HE := Lib.hid (show ((wr.setCell ⟨w.heap.size, 0, none⟩ (.map none)).setCell ⟨w.heap.size, 1, none⟩ (.slice none 0 0)).heap[w.heap.size]? = some (.cells #[.map none, .slice none 0 0] 80 (0, 0)) from blk_set (blk_set HG.out.res 0 _) 1 _)
        go_wp2_with (at_lookup; refine wpList_look_some rfl _ _ rfl mb (names.take k) HG.out.map s hsz i HPN.out rfl rfl ?_)
        exact bodyPost_ret (v := .tuple #[.agg #[.map none, .slice none 0 0], .bool false]) (results_cell_tmp Tryz.results49 _ _ w.heap.size 80 _ (0, 0) _ _ rfl rfl HE.out Tryz.underlying80 rfl infoGraph) rfl (HNO.out _ HD.out ((HBW.out.setCell (p := ⟨w.heap.size, 0, none⟩) (Nat.le_refl _) _).setCell (p := ⟨w.heap.size, 1, none⟩) (Nat.le_refl _) _))
      | none =>
        have HPN := Lib.hid hpos
        have HN2 : Hid ((names.take (k + 1)).Nodup) := Lib.hid (by rw [HT.out, Drv.nodup_snoc]; exact ⟨HN.out, (Drv.posO_none _ _).1 hpos⟩)
        obtain ⟨D, hD1, hD2⟩ := HG.out.map
        have HD1 := Lib.hid hD1
        have HD2 := Lib.hid hD2
        clear hpos HN hD1 hD2
        go_wp2_with (first | (at_lookup; refine wpList_look_none rfl _ _ rfl mb (names.take k) HG.out.map s hsz HPN.out rfl rfl ?_) | (at_mapUpdate; refine wpList_mapUpdate_own _ rfl _ _ _ 77 rfl 9 3 keyStr Tryz.underlying77 _ mb (names.take k).length D rfl HD1.out (by unfold maxLen; rw [HTL.out]; omega) _ _ (kS s) rfl rfl (Go.WideMaps.keyOf_string_mk Tryz.underlying9 hsz) (.lit (.int .i64 (k : Int))) [] ?val ?_))
        case val => exact plainElem_int Tryz.underlying3 (by simp [Lit.wf, IntKind.min, IntKind.max, IntKind.signed, IntKind.bits]; omega)
        intro w1 hown1 hgrow1
        have HG1 := Lib.hid (HG.out.grown (MapIs.put HD1.out HD2.out HPN.out (by rw [HTL.out]; exact hown1)) hgrow1)
        rw [← HT.out] at HG1
        clear hown1 hgrow1 HD1 HD2 HG HPN
        go_wp2
        go_roundw
        case rel => exact ⟨k + 1, by omega, by go_num, HN2, HG1⟩
        case measure => simp [intOf]; omega
    · have hk' : ¬ (k : Int) < (names.length : Int) := by omega
      have hke : names.take k = names := List.take_of_length_le (by omega)
      rw [hke] at HG HN
      have HD : Hid (dupB names = false) := Lib.hid (by unfold Drv.dupB; exact decide_eq_false (fun h => h HN.out))
      clear hke HN HA
      obtain ⟨m, hm⟩ : ∃ m, m = min names.length needs.length := ⟨_, rfl⟩
      have hmn : ∀ (w : World) (ts : Array TypeId) (t : TypeId), (Builtin.min_ ts t #[.int .i64 (names.length : Int), .int .i64 (needs.length : Int)]).run Tryz.prog w = .ok (.int .i64 (m : Int)) w := fun w ts t => by
        rw [run_min_int2]
        congr 2
        split <;> omega
      go_upto_region 11 with (fail)
      have HST : Hid (∀ j, j < names.length → (List.replicate names.length ([] : List Int)).getD j [] = if j < 0 then ofN (edgeAt names needs j) else []) := Lib.hid fun j hj => by simp [List.getD, hj]
      generalize List.replicate names.length nilS = rows0 at *
      generalize List.replicate names.length ([] : List Int) = rs0 at *
      go_loopw [43] (fun iv wr => ∃ (i : Nat) (rows : List Value) (rs : List (List Int)), i ≤ m ∧ iv = .int .i64 i ∧ Hid (∀ j, j < names.length → rs.getD j [] = if j < i then ofN (edgeAt names needs j) else []) ∧ Hid (GrA w mb rb gb names.length names rows rs wr)) (fun iv _ => m - (intOf iv).toNat)
      case atStart => exact ⟨0, rows0, rs0, by omega, rfl, HST, HG⟩
      case round =>
        clear HG HST
        obtain ⟨i, rows, rs, him, rfl, HRS, HG⟩ := hrel
        obtain ⟨hc0, hc1, _, _⟩ := cell_two HG.out.blk
        by_cases hlt : i < m
        · have hin : i < needs.length := by omega
          have hin2 : i < names.length := by omega
          obtain ⟨adb, u, rfl, hcu, hu⟩ := OutS.get (HB.out.below HG.out.below) i hin
          rw [show needs.getD i default = needs.getD i [] from rfl] at hu
          obtain ⟨hrl, hrs⟩ := hf.row _ (getD_row hin)
          have HEA := Lib.hid (show edgeAt names needs i = edges names (needs.getD i []) from rfl)
          generalize needs.getD i [] = row at *
          have HPL := Lib.hid (places_any mb (some ⟨rb, 0, none⟩) names.length names.length names row u wr.drew HG.out.map hu hrs (by omega))
          obtain ⟨R, cr, rfl, hlr, hmr⟩ := RdS.form hu
          have hii : (i : Int) < (m : Int) := by omega
          have hrc : wr.cell? ⟨rb, i, none⟩ = some (rows.getD i nilS) := by
            rw [blk_cell HG.out.rw i, List.getElem?_toArray, List.getD_eq_getElem?_getD, List.getElem?_eq_getElem (by rw [HG.out.rl]; exact hin2)]; rfl
          have hrf := blk_free HG.out.rw i
          have HCL := Lib.hid (fun (w4 : World) (h : Below wr.drew.heap.size wr.drew w4) => show w4.cell? ⟨rb, i, none⟩ = some (rows.getD i nilS) ∧ w4.frozen? ⟨rb, i, none⟩ = false ∧ w4.cell? ⟨gb, 1, none⟩ = some (.slice (some ⟨rb, 0, none⟩) names.length names.length) from by
            have h2 := (h.block rb (block_lt (w := wr) HG.out.rw)).trans HG.out.rw
            exact ⟨(blk_cell h2 i).trans ((blk_cell HG.out.rw i).symm.trans hrc), blk_free h2 i, (cell_two ((h.block gb (block_lt (w := wr) HG.out.blk)).trans HG.out.blk)).2.1⟩)
          have HRS2 : Hid (∀ j, j < names.length → (rs.set i (ofN (edges names row))).getD j [] = if j < i + 1 then ofN (edgeAt names needs j) else []) := Lib.hid fun j hj => by
            rw [List.getD_eq_getElem?_getD, List.getElem?_set]
            by_cases e : i = j
            · subst e
              rw [if_pos rfl, if_pos (by rw [HG.out.sl]; exact hj), if_pos (by omega), HEA.out]; rfl
            · rw [if_neg e, ← List.getD_eq_getElem?_getD, HRS.out j hj]
              by_cases c : j < i
              · rw [if_pos c, if_pos (by omega)]
              · rw [if_neg c, if_neg (by omega)]
          clear hu HB
          unfold PlacesPost at HPL
          go_upto_region 13 with (fail)
          go_region_law (go_simp; refine HPL.out.mono ?_; rintro e w4 ⟨u4, rfl, ho4, hb4⟩; obtain ⟨hx4, hy4, hz4⟩ := HCL.out w4 hb4; obtain ⟨A4, c4, rfl⟩ := own_form ho4; dsimp only)
          all_goals
            have HG5 := Lib.hid (HG.out.row (w4 := w4) hin2 (by have h := hb4; exact ⟨h.os, h.tape, h.output, h.size, h.block⟩) (show IRow w4 (fun b => wr.heap.size ≤ b) _ (ofN (edges names row)) from irow_own ho4))
            clear ho4 hb4 hx4 hy4 hz4
            go_wp2_with fail
            go_roundw
            case rel => exact ⟨i + 1, _, _, by omega, by go_num, HRS2, HG5⟩
            case measure => simp [intOf]; omega
        · have hii : ¬ (i : Int) < (m : Int) := by omega
          obtain rfl : i = m := by omega
          have HRO : Hid (rs = rowsOf names needs) := Lib.hid (by
            refine List.ext_getElem? fun j => ?_
            unfold rowsOf
            rw [List.getElem?_map]
            by_cases hj : j < names.length
            · rw [List.getElem?_range hj, List.getElem?_eq_getElem (by rw [HG.out.sl]; exact hj)]
              have h := HRS.out j hj
              rw [List.getD_eq_getElem?_getD, List.getElem?_eq_getElem (by rw [HG.out.sl]; exact hj)] at h
              simp only [Option.getD_some] at h
              rw [h]
              by_cases c : j < i
              · rw [if_pos c]; rfl
              · rw [if_neg c]
                have : edgeAt names needs j = [] := by unfold Drv.edgeAt; rw [getD_nil (by omega)]; rfl
                simp [this, ofN]
            · rw [List.getElem?_eq_none (by rw [HG.out.sl]; omega), List.getElem?_eq_none (by simp; omega)]; rfl)
          obtain ⟨hr0, hr1, hr2, hr3⟩ := cell_two HG.out.res
          have HE := Lib.hid (show ((wr.setCell ⟨w.heap.size, 0, none⟩ (.map (some mb))).setCell ⟨w.heap.size, 1, none⟩ (.slice (some ⟨rb, 0, none⟩) names.length names.length)).heap[w.heap.size]? = some (.cells #[.map (some mb), .slice (some ⟨rb, 0, none⟩) names.length names.length] 80 (0, 0)) from blk_set (blk_set HG.out.res 0 _) 1 _)
          have HFIN := Lib.hid (HG.out.ret (by unfold maxLen; omega) (.map (some mb)) (.slice (some ⟨rb, 0, none⟩) names.length names.length))
          have HB2 := Lib.hid (HG.out.below)
          go_wp2_with fail
          exact bodyPost_ret (v := .tuple #[.agg #[.map (some mb), .slice (some ⟨rb, 0, none⟩) names.length names.length], .bool true]) (results_cell_tmp Tryz.results49 _ _ w.heap.size 80 _ (0, 0) _ _ rfl rfl HE.out Tryz.underlying80 rfl infoGraph) rfl (HYES.out _ _ _ HD.out HFIN.out.1 (HRO.out ▸ HFIN.out.2) ((HB2.out.setCell (p := ⟨w.heap.size, 0, none⟩) (Nat.le_refl _) _).setCell (p := ⟨w.heap.size, 1, none⟩) (Nat.le_refl _) _))
end Go.Proofs.YtbniilajffjfcaaGreatDoor
