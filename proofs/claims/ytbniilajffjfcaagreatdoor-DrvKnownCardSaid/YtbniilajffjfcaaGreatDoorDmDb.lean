/- drv: Sort: what it makes first. -/
import Derived.Test.YtbniilajffjfcaaGreatDoorDmDa
import Derived.ScopeJumps
import Derived.WalkMore
import Derived.Scope
set_option linter.unusedVariables false
set_option linter.unusedSimpArgs false
namespace Go.Proofs.YtbniilajffjfcaaGreatDoor
open Go.RowKit Go.BigFrame Go.Maps
open Drv (posO edges edgeAt dupB stepS sortS cntO Wt Ordered)
open Cnf (Heaped)

theorem make_ints (n : Nat) (hn : n ≤ 4000000) (w : World) : (Instr.makeSlice 51 (.int .i64 n) (.int .i64 n)).run Tryz.prog w = .ok (.slice (some ⟨w.heap.size, 0, none⟩) n n) (w.alloc (.cells (madeCells #[.int .i64 0] n) 3)) :=
  run_make_row' (P := Tryz.prog) 51 3 (.int .i64 0) 8 Tryz.underlying51 (by kernel_rfl) rfl .i64 .i64 n (by omega) (by omega) w
/-- What of a call of Sort stands from where its walk began. -/
structure SrtW (W1 W0 : World) (mb n : Nat) (v : Value) (rs : List (List Int)) (wb wc ub fb fc : Nat) : Prop where
  g : W0.heap[W1.heap.size]? = some (.cells #[.map (some mb), v] 80 (0, 0))
  rows : OutS IRow W0 (fun b => b < W1.heap.size + 1) v rs
  us : UsW W0 wb ub n W0 (List.replicate n 0) (List.replicate n nilS) (List.replicate n [])
  wck : W0.heap[wc]? = some (.cells #[.slice (some ⟨wb, 0, none⟩) n n] 51 (0, 0))
  fbk : W0.heap[fb]? = some (.cells #[nilS] 86 (0, 0))
  fck : W0.heap[fc]? = some (.cells #[.pointer (some ⟨fb, 0, none⟩)] 83 (0, 0))
  ord : W1.heap.size < wb ∧ wb < wc ∧ wc < ub ∧ ub < fb ∧ fb < fc ∧ fc < W0.heap.size
  below : Below W1.heap.size W1 W0
theorem six (W : World) (a b c d e f : Obj) : let X := (((((W.alloc a).alloc b).alloc c).alloc d).alloc e).alloc f
    (X.heap[W.heap.size]? = some a ∧ X.heap[W.heap.size + 1]? = some b ∧ X.heap[W.heap.size + 1 + 1]? = some c ∧ X.heap[W.heap.size + 1 + 1 + 1]? = some d ∧ X.heap[W.heap.size + 1 + 1 + 1 + 1]? = some e ∧ X.heap[W.heap.size + 1 + 1 + 1 + 1 + 1]? = some f) ∧ Below W.heap.size W X ∧ X.heap.size = W.heap.size + 1 + 1 + 1 + 1 + 1 + 1 := by
  refine ⟨⟨?_, ?_, ?_, ?_, ?_, ?_⟩, ((((((Below.refl _ _).alloc (Nat.le_refl _) _).alloc (by simp) _).alloc (by simp <;> omega) _).alloc (by simp <;> omega) _).alloc (by simp <;> omega) _).alloc (by simp <;> omega) _, by simp⟩
  · exact (Below.heap_alloc _ _ _ (by simp <;> omega)).trans ((Below.heap_alloc _ _ _ (by simp <;> omega)).trans ((Below.heap_alloc _ _ _ (by simp <;> omega)).trans ((Below.heap_alloc _ _ _ (by simp <;> omega)).trans ((Below.heap_alloc _ _ _ (by simp <;> omega)).trans (new_at _ _ _ (by simp <;> omega))))))
  · exact (Below.heap_alloc _ _ _ (by simp <;> omega)).trans ((Below.heap_alloc _ _ _ (by simp <;> omega)).trans ((Below.heap_alloc _ _ _ (by simp <;> omega)).trans ((Below.heap_alloc _ _ _ (by simp <;> omega)).trans (new_at _ _ _ (by simp <;> omega)))))
  · exact (Below.heap_alloc _ _ _ (by simp <;> omega)).trans ((Below.heap_alloc _ _ _ (by simp <;> omega)).trans ((Below.heap_alloc _ _ _ (by simp <;> omega)).trans (new_at _ _ _ (by simp <;> omega))))
  · exact (Below.heap_alloc _ _ _ (by simp <;> omega)).trans ((Below.heap_alloc _ _ _ (by simp <;> omega)).trans (new_at _ _ _ (by simp <;> omega)))
  · exact (Below.heap_alloc _ _ _ (by simp <;> omega)).trans (new_at _ _ _ (by simp <;> omega))
  · exact new_at _ _ _ (by simp <;> omega)
theorem SrtW.start (W1 W0 : World) (mb n : Nat) (v : Value) (rs : List (List Int)) (hr : RowsAt W1 v rs) (h0 : W0 = (((((W1.alloc (.cells #[.map (some mb), v] 80)).alloc (.cells (madeCells #[.int .i64 0] n) 3)).alloc (.cells #[.slice (some ⟨W1.heap.size + 1, 0, none⟩) n n] 51)).alloc (.cells (madeCells #[.slice none 0 0] n) 51)).alloc (.cells #[nilS] 86)).alloc (.cells #[.pointer (some ⟨W1.heap.size + 1 + 1 + 1 + 1, 0, none⟩)] 83)) :
    SrtW W1 W0 mb n v rs (W1.heap.size + 1) (W1.heap.size + 1 + 1) (W1.heap.size + 1 + 1 + 1) (W1.heap.size + 1 + 1 + 1 + 1) (W1.heap.size + 1 + 1 + 1 + 1 + 1) := by
  subst h0
  obtain ⟨⟨h1, h2, h3, h4, h5, h6⟩, hb, hz⟩ := six W1 (.cells #[.map (some mb), v] 80) (.cells (madeCells #[.int .i64 0] n) 3) (.cells #[.slice (some ⟨W1.heap.size + 1, 0, none⟩) n n] 51) (.cells (madeCells #[.slice none 0 0] n) 51) (.cells #[nilS] 86) (.cells #[.pointer (some ⟨W1.heap.size + 1 + 1 + 1 + 1, 0, none⟩)] 83)
  generalize (((((W1.alloc (.cells #[.map (some mb), v] 80)).alloc (.cells (madeCells #[.int .i64 0] n) 3)).alloc (.cells #[.slice (some ⟨W1.heap.size + 1, 0, none⟩) n n] 51)).alloc (.cells (madeCells #[.slice none 0 0] n) 51)).alloc (.cells #[nilS] 86)).alloc (.cells #[.pointer (some ⟨W1.heap.size + 1 + 1 + 1 + 1, 0, none⟩)] 83) = X at *
  have hnil : ∀ q, (List.replicate n nilS).getD q nilS = nilS := fun q => by by_cases c : q < n <;> simp [List.getD, c]
  have hnil2 : ∀ q, (List.replicate n ([] : List Nat)).getD q [] = [] := fun q => by by_cases c : q < n <;> simp [List.getD, c]
  refine ⟨h1, ?_, ⟨?_, ?_, by simp, by simp, fun q _ => ?_, fun q r _ _ _ k hk => ?_, Ch.refl _ _, by omega⟩, h3, h5, h6, by omega, hb⟩
  · obtain ⟨vs', h1', h2'⟩ := hr
    have h3 : OutS IRow W1 (fun b => b < W1.heap.size + 1) v rs := ⟨vs', h1'.weak fun b hb _ => by omega, h2'.weak IRow.keeps fun b hb _ => by omega⟩
    exact OutS.below IRow.keeps h3 hb
  · rw [h2, made_list]; simp [ints]
  · rw [h4, made_list]; rfl
  · rw [hnil, hnil2]; exact World.ownsRow_nil _ _ _ _
  · rw [hnil] at hk; cases hk
theorem SoW.start {W1 W0 W2 : World} {mb n wb wc ub fb fc : Nat} {v : Value} {rs : List (List Int)} {ws : List Int} {us : List Value} {uss : List (List Nat)} (H : SrtW W1 W0 mb n v rs wb wc ub fb fc) (U : UsW W0 wb ub n W2 ws us uss) (hl : ws.length = n) : SoW W2 wb wc fc fb n W2 ws nilS [] nilS [] := by
  have o := H.ord
  have hz := U.rest.size
  exact ⟨Ch.refl _ _, U.wbk, hl, ⟨U.rest.heap H.fbk (by omega), rfl, World.ownsRow_nil _ _ _ _, by simp [nilS, Value.ownBlock]⟩, (fun k h0 hk => by simp at hk), World.ownsRow_nil _ _ _ _, (fun k hk => by cases hk), U.rest.heap H.wck (by omega), U.rest.heap H.fck (by omega), by omega⟩
/-- The frame at the label. -/
def frameS (u : Nat → Value) (n wc ub fc : Nat) (x0 x1 ov : Value) : Act :=
  { tmps := #[x0, x1, u 2, u 3, .slice none 0 0, .int .i64 0, u 6, u 7, .pointer (some ⟨wc, 0, none⟩), .slice (some ⟨ub, 0, none⟩) n n, .pointer (some ⟨fc, 0, none⟩), .func (.func 50) #[] #[.pointer (some ⟨wc, 0, none⟩), .pointer (some ⟨fc, 0, none⟩)], u 12, u 13, u 14, u 15, u 16, ov, u 18, u 19, u 20, u 21, u 22, u 23, u 24, u 25, u 26, u 27, u 28, u 29, u 30, u 31, u 32, u 33, u 34, u 35, u 36, u 37, u 38, u 39, u 40, u 41, u 42, u 43, u 44, u 45, u 46, u 47, u 48, u 49, u 50, u 51, u 52, u 53, u 54, u 55, u 56, u 57, u 58, u 59, u 60, u 61, u 62, u 63, u 64, u 65, u 66, u 67, u 68, u 69, u 70, u 71, u 72, u 73, u 74, u 75, u 76, u 77, u 78, u 79, u 80, u 81, u 82, u 83, u 84, u 85, u 86, u 87, u 88, u 89, u 90, u 91, u 92, u 93, u 94, u 95, u 96, u 97, u 98, u 99, u 100, u 101, u 102, u 103, u 104, u 105, u 106, u 107, u 108, u 109, u 110, u 111, u 112, u 113, u 114, u 115, u 116], defers := [] }
def lenV : Value → Nat
  | .slice _ m _ => m
  | _ => 0
/-- What stands at every jump. -/
structure SrtP (n : Nat) (E : Nat → List Nat) (w W2 : World) (wb wc ub fb fc : Nat) (uss : List (List Nat)) (ws : List Int) (yv : Value) (h : List Int) (ov : Value) (out : List Nat) (wr : World) : Prop where
  so : SoW W2 wb wc fc fb n wr ws yv h ov out
  wt : Wt n E out [] ws h
  od : Ordered n E out
  sq : sortS n E n [] = sortS n E (n - out.length) out
  bd : ∀ j, j < n → ws.getD j 0 ≤ 100000
  ur : OutS IRow W2 (fun b => b ≠ wb ∧ b ≠ fb) (.slice (some ⟨ub, 0, none⟩) n n) (uss.map ofN)
  uc : UsC n E n 0 uss
  ul : uss.length = n
  bw : Below w.heap.size w W2
  ne : ub ≠ wb ∧ ub ≠ fb
  lo : w.heap.size ≤ wb ∧ w.heap.size ≤ fb
def SrtJ (Dn : Prop) (n : Nat) (E : Nat → List Nat) (w : World) (x0 x1 : Value) (a : Act) (wr : World) : Prop :=
  ∃ u W2 wb wc ub fb fc uss ws yv h Ao co out, a = frameS u n wc ub fc x0 x1 (.slice Ao (List.length out) co) ∧ SrtP n E w W2 wb wc ub fb fc uss ws yv h (.slice Ao (List.length out) co) out wr ∧ Dn
def muS (n : Nat) (a : Act) (_ : World) : Nat := n - lenV (a.tmps.getD 17 undef)
theorem SrtJ.of {Dn : Prop} {n : Nat} {E : Nat → List Nat} {w : World} {x0 x1 : Value} {a : Act} {wr W2 : World} {wb wc ub fb fc : Nat} {uss : List (List Nat)} {ws : List Int} {yv : Value} {h : List Int} {Ao : Option Addr} {m co : Nat} {out : List Nat}
    (hm : m = out.length) (ha : a = frameS (fun k => a.tmps.getD k undef) n wc ub fc x0 x1 (.slice Ao m co)) (hp : SrtP n E w W2 wb wc ub fb fc uss ws yv h (.slice Ao m co) out wr) (hd : Dn) : SrtJ Dn n E w x0 x1 a wr := by
  subst hm
  exact ⟨_, W2, wb, wc, ub, fb, fc, uss, ws, yv, h, Ao, co, out, ha, hp, hd⟩
set_option maxRecDepth 100000 in
set_option maxHeartbeats 16000000 in
theorem sort_any (a b : Value) (names : List ByteArray) (needs : List (List ByteArray)) (w : World) (ha : TRow w AllB a names) (hb : TextsAt w b needs) (hf : Few names needs) :
    Calls Tryz.prog 26 #[a, b] w (RowPost (sortL names needs) (sortC names needs) w) := by
  have HP := Lib.hid (fun (u : Value) (w' : World) (l : List Nat) (x : Int) (hl : l = sortL names needs) (hx : x = sortC names needs) (h1 : w'.ownsRow w.heap.size 3 1 u l.length (ints (ofN l))) (h2 : Below w.heap.size w w') => RowPost.of hl hx h1 h2)
  generalize RowPost (sortL names needs) (sortC names needs) w = post at *
  have HNG := Lib.hid (newGraph_any a b names needs w ha hb hf)
  have hn := hf.n
  obtain ⟨A, ca, rfl, hla, hma⟩ := RdS.form ha
  obtain ⟨B, cb, rfl, hlb, hmb⟩ := OutS.form hb
  unfold maxLen at hma hmb
  have HEL := Lib.hid (fun (i : Nat) => show (edgeAt names needs i).length ≤ 100000 from by
    unfold edgeAt
    refine Nat.le_trans (Drv.edges_len _ _) ?_
    by_cases h : i < needs.length
    · exact (hf.row _ (getD_row h)).1
    · rw [getD_nil h]; exact Nat.zero_le _)
  have HELT := Lib.hid (fun (j : Nat) (e : Nat) (h : e ∈ edgeAt names needs j) => Drv.edgeAt_lt h)
  have hmk := make_ints names.length (by omega)
  have hmk2 := make_rows names.length (by omega)
  clear ha hb hf
  unfold NewPost at HNG
  go_enter Tryz.func26, Tryz.ntmps26
  go_wp2_with fail
  refine wp_scope_jumps 0 (SrtJ (dupB names = false) names.length (edgeAt names needs) w (.slice A names.length ca) (.slice B needs.length cb)) (muS names.length) rfl ?first ?pass
  case pass =>
    rintro a wr ⟨u, W2, wb, wc, ub, fb, fc, uss, ws, yv, h, Ao, co, out, rfl, hP, hdn⟩
    have HDN := Lib.hid hdn
    clear hdn
    have HS := Lib.hid hP.so
    have HWT := Lib.hid hP.wt
    have HPR := Lib.hid hP
    clear hP
    have hfc : wr.cell? ⟨fc, 0, none⟩ = some (.pointer (some ⟨fb, 0, none⟩)) := by rw [blk_cell HS.out.fcw 0]; rfl
    obtain ⟨Ay, cy, rfl⟩ := own_form HS.out.rdy.own
    have hfb : wr.cell? ⟨fb, 0, none⟩ = some (.slice Ay h.length cy) := HS.out.rdy.cell.1
    have hhl := wt_len HWT.out
    have HLEN := Lib.hid (len_any Ay h.length cy wr)
    unfold frameS
    by_cases h0 : 0 < h.length
    · have h0i : (0 : Int) < (h.length : Int) := by omega
      have HPO := Lib.hid (heapPop_any W2.heap.size fb _ _ h wr HS.out.rdy HS.out.heap h0 (by omega))
      unfold hp HeapPop at HPO
      go_wp2_with fail
      refine HLEN.out.mono ?_
      rintro e w' ⟨rfl, hw⟩
      obtain rfl := hw.symm
      go_wp2_with fail
      refine HPO.out.mono ?_
      rintro e w3 ⟨x, rfl, v3, h3, hp3⟩
      obtain ⟨i, hxi, hin, hio, hie, hst⟩ := Wt.step_some HWT.out hp3.mem hp3.least
      subst hxi
      have HS3 := Lib.hid (HS.out.popped hp3)
      have hpp := hp3.parts HWT.out.nodup
      have hus := HPR.out.uc.users hin
      have HW3 := Lib.hid (HWT.out.begin hio hpp.1 hpp.2 hus.1)
      have HUS := Lib.hid hus
      have HOD := Lib.hid (HPR.out.od.snoc hin hio hie)
      have HNO := Lib.hid (fun (j : Nat) (hj : j < names.length) (h : j ∈ uss.getD i []) => Drv.user_out HPR.out.od hio hie (hus.1 j hj) h)
      have HOL := Lib.hid (Drv.nodup_le HOD.out.nodup HOD.out.lt)
      have hol := HOL.out
      rw [List.length_append, List.length_singleton] at hol
      have HSQ := Lib.hid (HPR.out.sq.trans (sortS_step (by omega) hst))
      have HZ2 := Lib.hid HS3.out.ch.size
      have hta : ∀ w, (Instr.typeAssert (.iface 3 (.int .i64 (i : Int))) 20 3 false).run Tryz.prog w = .ok (.int .i64 (i : Int)) w := fun _ => by kernel_rfl
      have hii : (i : Int) < (names.length : Int) := by omega
      clear hp3 hpp hus hst hie hio HPO HLEN HS HWT hfc hfb h0i
      obtain ⟨out2, hout2⟩ : ∃ out2, out2 = out ++ [i] := ⟨_, rfl⟩
      rw [← hout2] at HW3 HOD HNO HOL HSQ
      have HO2 := Lib.hid hout2
      have HOLN := Lib.hid (show out2.length = out.length + 1 by rw [hout2]; simp)
      clear hout2
      go_wp2_with (at_builtin; refine wpList_push rfl _ _ rfl W2.heap.size _ out rfl (HS3.out.ow.alloc _) ⟨w3.heap.size, 0, none⟩ i rfl ?_ ?_ ?_ _ HO2.out ?_)
      · exact (blk_cell (new_at _ (.cells #[.int .i64 (i : Int)] 3) _ rfl) 0).trans rfl
      · omega
      · have := HZ2.out; simp; omega
      · intro A5 c5 w5 hown5 _ hg5 hm5
        have HS5 := Lib.hid (HS3.out.order (.cells #[.int .i64 (i : Int)] 3) hown5 hg5 hm5)
        clear hown5 hg5 hm5 HS3
        obtain ⟨adu, uu, hA, hcu, hu⟩ := OutS.get HPR.out.ur i (by rw [List.length_map, HPR.out.ul]; exact hin)
        cases hA
        have hcu2 := HS5.out.ch.cell (cell_lit hcu) (by have := HPR.out.ne; simp only; omega)
        have hud : ((uss.map ofN).getD i default) = ofN (uss.getD i []) := by
          simp [List.getD, show i < uss.length by rw [HPR.out.ul]; exact hin]
        rw [hud] at hu
        obtain ⟨L, hL⟩ : ∃ L, L = uss.getD i [] := ⟨_, rfl⟩
        rw [← hL] at hu HUS HNO HW3
        obtain ⟨Au, cu, rfl, hlu, hmu⟩ := RdS.form hu
        rw [ofN_len] at *
        unfold maxLen at hmu
        have HU5 := Lib.hid hu
        have HBD := Lib.hid HPR.out.bd
        have HW5 : Hid (Wt names.length (edgeAt names needs) out2 (L.drop 0) ws h3) := Lib.hid (by rw [List.drop_zero]; exact HW3.out)
        clear hu hcu hud hL HW3
        go_wp2
        go_loopw [97] (fun kv w6 => ∃ (k : Nat) (ws : List Int) (yv : Value) (h : List Int), k ≤ L.length ∧ kv = .int .i64 (k : Int) ∧ Hid (SoW W2 wb wc fc fb names.length w6 ws yv h (.slice A5 out2.length c5) out2) ∧ Hid (Wt names.length (edgeAt names needs) out2 (L.drop k) ws h) ∧ Hid (∀ j, j < names.length → ws.getD j 0 ≤ 100000)) (fun kv _ => L.length - (intOf kv).toNat)
        case atStart => exact ⟨0, _, _, _, by omega, rfl, HS5, HW5, HBD⟩
        case round =>
          clear HS5 HW5 HBD hcu2 hta
          clear h3
          obtain ⟨k, ws, yv, h3, hk, rfl, HS, HWT, HBD⟩ := hrel
          by_cases hlk : k < L.length
          · have hki : (k : Int) < (L.length : Int) := by omega
            obtain ⟨ad3, rfl, hcx⟩ := IRow.get (RdS.keep HU5.out (HS.out.ch.same _ fun b hb hs h => by
              rcases h with h | h
              · exact hs.1 h
              · exact hs.2 h)) k (by rw [ofN_len]; exact hlk)
            rw [ofN_get L k hlk] at hcx
            have hjm : L.getD k 0 ∈ L := by simp [List.getD, hlk]
            have hjn := HUS.out.2 _ hjm
            have hjo := HNO.out _ hjn hjm
            have hdr : L.drop k = L.getD k 0 :: L.drop (k + 1) := by
              rw [List.drop_eq_getElem_cons hlk]; simp [List.getD, hlk]
            rw [hdr] at HWT
            generalize L.getD k 0 = j at *
            have hji : (j : Int) < (names.length : Int) := by omega
            have hw0 : wr.cell? ⟨wc, 0, none⟩ = some (.slice (some ⟨wb, 0, none⟩) names.length names.length) := by rw [blk_cell HS.out.wcw 0]; rfl
            have hwbc : wr.cell? ⟨wb, j, none⟩ = some (.int .i64 (ws.getD j 0)) := by rw [blk_cell HS.out.wbk j, List.getElem?_toArray]; exact ints_get ws j (by rw [HS.out.wl]; exact hjn)
            have hwbf := blk_free HS.out.wbk j
            have hbd := HBD.out j hjn
            have hcn := HWT.out.cnt j hjn
            rw [List.count_cons_self] at hcn
            have HS7 := Lib.hid (HS.out.wait j (ws.getD j 0 - 1))
            have hjl : j < ws.length := by rw [HS.out.wl]; exact hjn
            have HG7 := Lib.hid (show (ws.set j (ws.getD j 0 - 1)).getD j 0 = ws.getD j 0 - 1 by rw [Drv.getD_set _ _ _ _ hjl, if_pos rfl])
            have HBD7 : Hid (∀ q, q < names.length → (ws.set j (ws.getD j 0 - 1)).getD q 0 ≤ 100000) := Lib.hid fun q hq => by
              rw [Drv.getD_set _ _ _ _ hjl]
              split
              · omega
              · exact HBD.out q hq
            have HST7 := Lib.hid (fun (h0 : ws.getD j 0 - 1 ≠ 0) => HWT.out.stay hjn h0)
            have HPU7 := Lib.hid (fun (h0 : ws.getD j 0 - 1 = 0) (h' : List Int) (hm : ∀ x : Int, x ∈ h' ↔ x ∈ h3 ∨ x = j) (hl : h'.length = h3.length + 1) => HWT.out.push hjn hjo h0 hm (nodup_cover ((j : Int) :: h3) h' (List.nodup_cons.2 ⟨HWT.out.not_in hjn, HWT.out.nodup⟩) (fun x hx => (hm x).2 (by
              rcases List.mem_cons.1 hx with e | e
              · exact .inr e
              · exact .inl e)) (by simp; omega)).1)
            have HRA := Lib.hid (ready_any W2 wb wc fc fb names.length _ _ yv h3 _ out2 HS7.out j hjn (by omega) (by have := wt_len HWT.out; omega) (by rw [HG7.out]; omega))
            unfold ReadyPost at HRA
            rw [HG7.out] at HRA
            have hy1 : 1 ≤ ws.getD j 0 := by omega
            obtain ⟨ws2, hws2⟩ : ∃ ws2, ws2 = ws.set j (ws.getD j 0 - 1) := ⟨_, rfl⟩
            rw [← hws2] at HRA HBD7 HST7 HPU7
            generalize ws.getD j 0 = y at *
            clear hws2 hcn hdr HS HWT HBD HG7 HS7
            go_wp2_with fail
            refine HRA.out.mono ?_
            rintro e w8 ⟨rfl, yv8, h8, hs8, hz8, hne8⟩
            have HS8 := Lib.hid hs8
            have HW8 := Lib.hid (show Wt names.length (edgeAt names needs) out2 (L.drop (k + 1)) ws2 h8 by
              by_cases c : y - 1 = 0
              · exact HPU7.out c h8 (hz8 c).1 (hz8 c).2
              · rw [hne8 c]; exact HST7.out c)
            clear hs8 hz8 hne8 HRA HST7 HPU7 hwbc hwbf hw0
            go_wp2
            go_roundw
            case rel => exact ⟨k + 1, _, _, _, by omega, by go_num, HS8, HW8, HBD7⟩
            case measure => simp [intOf]; omega
          · have hki : ¬ (k : Int) < (L.length : Int) := by omega
            have HJ := Lib.hid (show SrtP names.length (edgeAt names needs) w W2 wb wc ub fb fc uss ws yv h3 _ out2 wr from ⟨HS.out, by have := HWT.out; rwa [List.drop_eq_nil_of_le (by omega)] at this, HOD.out, HSQ.out, HBD.out, HPR.out.ur, HPR.out.uc, HPR.out.ul, HPR.out.bw, HPR.out.ne, HPR.out.lo⟩)
            clear HS HWT HBD
            go_wp2
            go_step3
            exact ⟨rfl, SrtJ.of rfl rfl HJ.out HDN.out, by (have := HOL.out; have := HOLN.out; simp only [muS, lenV]; show names.length - out2.length < names.length - out.length; omega)⟩
    · have h0i : ¬ (0 : Int) < (h.length : Int) := by omega
      obtain rfl : h = [] := List.eq_nil_of_length_eq_zero (by omega)
      have HSN := Lib.hid HWT.out.step_none
      have HOW := Lib.hid (own_base HS.out.ow HPR.out.bw.size)
      have HBF := Lib.hid (HPR.out.bw.trans (HS.out.ch.below HPR.out.bw.size fun k h => by have := HPR.out.lo; omega))
      by_cases hof : out.length < names.length
      · have hofi : (out.length : Int) < (names.length : Int) := by omega
        have HQ := Lib.hid (HPR.out.sq.trans (sortS_none hof HSN.out))
        have HL1 := Lib.hid (show ([] : List Nat) = sortL names needs by unfold sortL; rw [HDN.out, HQ.out]; rfl)
        have HC1 := Lib.hid (show (240 : Int) = sortC names needs by unfold sortC; rw [HDN.out, HQ.out]; rfl)
        go_wp2_with fail
        refine HLEN.out.mono ?_
        rintro e w' ⟨rfl, hw⟩
        obtain rfl := hw.symm
        go_wp2
        exact HP.out _ _ _ _ HL1.out HC1.out (World.ownsRow_nil _ _ _ _) HBF.out
      · have hofi : ¬ (out.length : Int) < (names.length : Int) := by omega
        have HQ := Lib.hid (HPR.out.sq.trans (sortS_end hof))
        have HL1 := Lib.hid (show out = sortL names needs by unfold sortL; rw [HDN.out, HQ.out]; rfl)
        have HC1 := Lib.hid (show (0 : Int) = sortC names needs by unfold sortC; rw [HDN.out, HQ.out]; rfl)
        go_wp2_with fail
        refine HLEN.out.mono ?_
        rintro e w' ⟨rfl, hw⟩
        obtain rfl := hw.symm
        go_wp2
        exact HP.out _ _ _ _ HL1.out HC1.out HOW.out HBF.out
  case first =>
    go_wp2_with fail
    refine HNG.out.mono ?_
    rintro e w1 (⟨hd, rfl, hb1⟩ | ⟨hd, mb, v, rfl, hM, hR, hb1⟩)
    · have HL := Lib.hid (show ([] : List Nat) = sortL names needs by unfold sortL; rw [hd]; rfl)
      have HC := Lib.hid (show (151 : Int) = sortC names needs by unfold sortC; rw [hd]; rfl)
      have HB1 := Lib.hid hb1
      clear hd hb1
      go_wp2
      exact HP.out _ _ _ _ HL.out HC.out (World.ownsRow_nil _ _ _ _) (HB1.out.alloc HB1.out.size _)
    · have HL := Lib.hid (show sortL names needs = (sortS names.length (edgeAt names needs) names.length []).getD [] by unfold sortL; rw [hd]; rfl)
      have HC := Lib.hid (show sortC names needs = if (sortS names.length (edgeAt names needs) names.length []).isSome then 0 else 240 by unfold sortC; rw [hd]; rfl)
      have HB1 := Lib.hid hb1
      obtain ⟨G, cg, rfl, hlg, hmg⟩ := OutS.form hR
      rw [rows_len] at *
      clear hb1
      have HDD := Lib.hid hd
      clear hd
      go_upto_region 8 with (fail)
      obtain ⟨W0, hW0⟩ : ∃ W0, W0 = (((((w1.alloc (.cells #[.map (some mb), .slice G names.length cg] 80)).alloc (.cells (madeCells #[.int .i64 0] names.length) 3)).alloc (.cells #[.slice (some ⟨w1.heap.size + 1, 0, none⟩) names.length names.length] 51)).alloc (.cells (madeCells #[.slice none 0 0] names.length) 51)).alloc (.cells #[.slice none 0 0] 86)).alloc (.cells #[.pointer (some ⟨w1.heap.size + 1 + 1 + 1 + 1, 0, none⟩)] 83) := ⟨_, rfl⟩
      have HST := Lib.hid (SrtW.start w1 W0 mb names.length _ (rowsOf names needs) hR hW0)
      rw [← hW0]
      clear hW0 hM hR hmk hmk2 HNG
      obtain ⟨s1, hs1⟩ : ∃ s1, s1 = w1.heap.size := ⟨_, rfl⟩
      generalize w1.heap.size + 1 + 1 + 1 + 1 + 1 = fc at *
      generalize w1.heap.size + 1 + 1 + 1 + 1 = fb at *
      generalize w1.heap.size + 1 + 1 + 1 = ub at *
      generalize w1.heap.size + 1 + 1 = wc at *
      generalize w1.heap.size + 1 = wb at *
      obtain ⟨hg0, hg1, _, _⟩ := cell_two HST.out.g
      have HC0 := Lib.hid (UsC.start names.length (edgeAt names needs))
      have HC1 := Lib.hid (WsC.start names.length (edgeAt names needs))
      have HU0 := Lib.hid HST.out.us
      go_wp2
      go_loopw [41] (fun iv wr => ∃ (i : Nat) (ws : List Int) (us : List Value) (uss : List (List Nat)), i ≤ names.length ∧ iv = .int .i64 (i : Int) ∧ Hid (UsW W0 wb ub names.length wr ws us uss) ∧ Hid (UsC names.length (edgeAt names needs) i 0 uss) ∧ Hid (WsC names.length (edgeAt names needs) i ws)) (fun iv _ => names.length - (intOf iv).toNat)
      case atStart => exact ⟨0, _, _, _, by omega, rfl, HU0, HC0, HC1⟩
      case round =>
        clear HU0 HC0 HC1
        obtain ⟨i, ws, us, uss, hin, rfl, HU, HCN, HWS⟩ := hrel
        have hw0 : wr.cell? ⟨wc, 0, none⟩ = some (.slice (some ⟨wb, 0, none⟩) names.length names.length) := by
          rw [blk_cell (HU.out.rest.heap HST.out.wck (by have := HST.out.ord; omega)) 0]; rfl
        by_cases hlt : i < names.length
        · have hii : (i : Int) < (names.length : Int) := by omega
          have HROW := Lib.hid (OutS.keep IRow.keeps HST.out.rows (w' := wr) (HU.out.rest.same _ fun b _ hs => by have := HST.out.ord; omega))
          obtain ⟨adg, ug, rfl, hcu, hu⟩ := OutS.get HROW.out i (by rw [rows_len]; exact hlt)
          rw [rows_get hlt] at hu
          have hel := HEL.out i
          have HLT := Lib.hid (fun x (hx : x ∈ edgeAt names needs i) => HELT.out i x hx)
          obtain ⟨L, hL⟩ : ∃ L, L = edgeAt names needs i := ⟨_, rfl⟩
          rw [← hL] at hu hel HLT
          obtain ⟨Au, cu, rfl, _, _⟩ := RdS.form hu
          rw [ofN_len] at *
          have HLE := Lib.hid hL
          have hwbc : wr.cell? ⟨wb, i, none⟩ = some (.int .i64 (ws.getD i 0)) := by rw [blk_cell HU.out.wbk i, List.getElem?_toArray]; exact ints_get ws i (by rw [HWS.out.len]; exact hlt)
          have hwbf := blk_free HU.out.wbk i
          have HU1 := Lib.hid (HU.out.wait i ((L.length : Nat) : Int))
          have HWS1 := Lib.hid (show WsC names.length (edgeAt names needs) (i + 1) (ws.set i ((L.length : Nat) : Int)) by rw [hL]; exact HWS.out.step hlt)
          have HU2 := Lib.hid (show IRow (wr.setCell ⟨wb, i, none⟩ (.int .i64 ((L.length : Nat) : Int))) (fun b => b < w1.heap.size + 1) (.slice Au L.length cu) (ofN L) from RdS.keep hu ⟨by simp, fun b _ hs => Below.heap_setCell _ _ _ _ (show b ≠ wb by have := HST.out.ord; omega)⟩)
          clear hL hu HU HWS HROW
          go_upto_region 13 with (fail)
          go_loopw [53] (fun kv w2 => ∃ (k : Nat) (us : List Value) (uss : List (List Nat)), k ≤ L.length ∧ kv = .int .i64 (k : Int) ∧ Hid (UsW W0 wb ub names.length w2 (ws.set i ((L.length : Nat) : Int)) us uss) ∧ Hid (UsC names.length (edgeAt names needs) i k uss) ∧ Hid (IRow w2 (fun b => b < w1.heap.size + 1) (.slice Au L.length cu) (ofN L))) (fun kv _ => L.length - (intOf kv).toNat)
          case atStart => exact ⟨0, _, _, by omega, rfl, HU1, HCN, HU2⟩
          case round =>
            clear HU1 HCN HU2 hwbc hwbf hw0
            clear us uss
            obtain ⟨k, us, uss, hk, rfl, HU, HCN, HI⟩ := hrel
            by_cases hlk : k < L.length
            · have hki : (k : Int) < (L.length : Int) := by omega
              obtain ⟨ad3, rfl, hcx⟩ := IRow.get HI.out k (by rw [ofN_len]; exact hlk)
              rw [ofN_get L k hlk] at hcx
              have hjn := HLT.out (L.getD k 0) (by simp [List.getD, hlk])
              have HKE := Lib.hid (show (edgeAt names needs i)[k]? = some (L.getD k 0) by rw [← HLE.out]; simp [List.getD, hlk])
              generalize L.getD k 0 = j at *
              have hji : (j : Int) < (names.length : Int) := by omega
              have HOW := Lib.hid (HU.out.rows j hjn)
              have hubc : wr.cell? ⟨ub, j, none⟩ = some (us.getD j nilS) := by
                rw [blk_cell HU.out.ubk j, List.getElem?_toArray, List.getD_eq_getElem?_getD, List.getElem?_eq_getElem (by rw [HU.out.ul]; exact hjn)]; rfl
              have hubf := blk_free HU.out.ubk j
              have HCN1 := Lib.hid (HCN.out.step HU.out.sl HKE.out hjn)
              have HLN := Lib.hid (HCN.out.len j hjn)
              have HZ := Lib.hid HU.out.rest.size
              have HUF := Lib.hid (fun (w5 : World) (v' : Value) (ho : w5.ownsRow W0.heap.size 3 1 v' (uss.getD j [] ++ [i]).length (ints (ofN (uss.getD j [] ++ [i])))) (hg : (wr.alloc (.cells #[.int .i64 (i : Int)] 3)).grownBy w5 (us.getD j nilS).ownBlock) (hm : Moved (wr.alloc (.cells #[.int .i64 (i : Int)] 3)) (us.getD j nilS) v') => HU.out.push hjn (.cells #[.int .i64 (i : Int)] 3) ho hg hm)
              obtain ⟨vj, hvj⟩ : ∃ vj, vj = us.getD j nilS := ⟨_, rfl⟩
              rw [← hvj] at HOW hubc HUF
              clear hvj
              obtain ⟨lj, hlj⟩ : ∃ lj, lj = uss.getD j [] := ⟨_, rfl⟩
              rw [← hlj] at HOW HLN HUF HCN1
              clear hlj
              obtain ⟨Aj, cj, rfl⟩ := own_form HOW.out
              have hub2 : ∀ (w5 : World), (wr.alloc (.cells #[.int .i64 (i : Int)] 3)).grownBy w5 (Value.slice Aj lj.length cj).ownBlock → w5.cell? ⟨ub, j, none⟩ = some (.slice Aj lj.length cj) ∧ w5.frozen? ⟨ub, j, none⟩ = false := fun w5 hg => by
                have h : w5.heap[ub]? = some (.cells us.toArray 51 (0, 0)) := (hg.block ub (by have := block_lt HU.out.ubk; simp; omega) (fun e => by have := (HOW.out.lt ub e.symm).1; have := HST.out.us.ord; omega)).trans ((old_block _ _ ub (block_lt HU.out.ubk)).trans HU.out.ubk)
                exact ⟨(blk_cell h j).trans ((blk_cell HU.out.ubk j).symm.trans hubc), blk_free h j⟩
              have HX := Lib.hid hub2
              clear hub2
              obtain ⟨l2, hl2⟩ : ∃ l2, l2 = lj ++ [i] := ⟨_, rfl⟩
              rw [← hl2] at HUF HCN1
              have HL2 := Lib.hid hl2
              clear hl2
              go_wp2_with (at_builtin; refine wpList_push rfl _ _ rfl W0.heap.size _ lj rfl (HOW.out.alloc _) ⟨wr.heap.size, 0, none⟩ i rfl ?_ ?_ ?_ _ HL2.out ?_)
              · exact (blk_cell (new_at _ (.cells #[.int .i64 (i : Int)] 3) _ (by simp)) 0).trans rfl
              · have := HLN.out; omega
              · have := HZ.out; simp; omega
              · intro A5 c5 w5 hown5 _ hg5 hm5
                obtain ⟨hub5, huf5⟩ := HX.out w5 hg5
                have HU5 := Lib.hid (HUF.out w5 _ hown5 hg5 hm5)
                have HI5 := Lib.hid (show IRow (w5.setCell ⟨ub, j, none⟩ (.slice A5 l2.length c5)) (fun b => b < w1.heap.size + 1) (.slice (some ad3) L.length cu) (ofN L) from RdS.keep HI.out ⟨by have := hg5.size; simp at this ⊢; omega, fun b _ hs => (HU5.out.rest.block b (by have := HST.out.ord; omega) (by have := HST.out.ord; omega)).trans (HU.out.rest.block b (by have := HST.out.ord; omega) (by have := HST.out.ord; omega)).symm⟩)
                clear hown5 hg5 hm5 HU HUF HX HI HOW hubc
                go_wp2
                go_roundw
                case rel => exact ⟨k + 1, _, _, by omega, by go_num, HU5, HCN1, HI5⟩
                case measure => simp [intOf]; omega
            · have hki : ¬ (k : Int) < (L.length : Int) := by omega
              have HCN1 := Lib.hid (HCN.out.next (by rw [← HLE.out]; omega) (by omega))
              clear HI HCN
              go_wp2
              go_roundw
              case rel => exact ⟨i + 1, _, _, _, by omega, by go_num, HU, HCN1, HWS1⟩
              case measure => simp [intOf]; omega
        · have hii : ¬ (i : Int) < (names.length : Int) := by omega
          obtain rfl : i = names.length := by omega
          obtain ⟨W2, hW2⟩ : ∃ W2, W2 = wr := ⟨_, rfl⟩
          rw [← hW2] at HU ⊢
          have HSO := Lib.hid (SoW.start HST.out HU.out HWS.out.len)
          have HUR := Lib.hid (HU.out.read (fb := fb) (by unfold maxLen; omega) (by have := HST.out.ord; omega) (by have := HST.out.ord; omega))
          have HBW := Lib.hid (show Below w.heap.size w W2 from HB1.out.trans ((HST.out.below.trans (HU.out.rest.below (B := w1.heap.size) (by have := HST.out.below.size; omega) (fun k h => by have := HST.out.ord; omega))).mono HB1.out.size))
          have HBS := Lib.hid HB1.out.size
          have HUL := Lib.hid HU.out.sl
          have HRD := Lib.hid (RdC.start ws)
          clear hW2 hw0 hg0 hg1 HB1
          clear wr
          go_wp2
          go_loopw [71] (fun iv wr => ∃ (i : Nat) (yv : Value) (h : List Int), i ≤ names.length ∧ iv = .int .i64 (i : Int) ∧ Hid (SoW W2 wb wc fc fb names.length wr ws yv h nilS []) ∧ Hid (RdC ws i h)) (fun iv _ => names.length - (intOf iv).toNat)
          case atStart => exact ⟨0, _, _, by omega, rfl, HSO, HRD⟩
          case round =>
            clear HSO HRD
            obtain ⟨i, yv, h, hin, rfl, HS, HRD⟩ := hrel
            by_cases hlt : i < names.length
            · have hii : (i : Int) < (names.length : Int) := by omega
              have HRA := Lib.hid (ready_any W2 wb wc fc fb names.length wr ws yv h nilS [] HS.out i hlt (by omega) (by have := HRD.out.len; omega) (by
                have h1 := HWS.out.at_ i hlt
                rw [if_pos hlt] at h1
                have h2 := HEL.out i
                omega))
              unfold ReadyPost at HRA
              go_wp2_with fail
              refine HRA.out.mono ?_
              rintro e w3 ⟨rfl, yv3, h3, hs3, hz3, hne3⟩
              have HS3 := Lib.hid hs3
              have HR3 := Lib.hid (show RdC ws (i + 1) h3 by
                by_cases c : ws.getD i 0 = 0
                · exact HRD.out.push c (hz3 c).1 (hz3 c).2
                · rw [hne3 c]; exact HRD.out.stay c)
              clear hs3 hz3 hne3 HRA
              go_wp2
              go_roundw
              case rel => exact ⟨i + 1, _, _, by omega, by go_num, HS3, HR3⟩
              case measure => simp [intOf]; omega
            · have hii : ¬ (i : Int) < (names.length : Int) := by omega
              obtain rfl : i = names.length := by omega
              have HWT := Lib.hid (wt_start HWS.out HRD.out)
              have HDN := Lib.hid HDD.out
              have HPR0 := Lib.hid (show SrtP names.length (edgeAt names needs) w W2 wb wc ub fb fc uss ws yv h nilS [] wr from ⟨HS.out, HWT.out, Ordered.nil _ _, rfl, fun j hj => by
                have h1 := HWS.out.at_ j hj
                rw [if_pos hj] at h1
                have h2 := HEL.out j
                omega, HUR.out, HCN.out, HUL.out, HBW.out, by have := HST.out.ord; omega, by have := HST.out.ord; have := HBS.out; omega⟩)
              go_wp2
              refine (fun (H : ∀ a w', SrtJ (dupB names = false) names.length (edgeAt names needs) w (.slice A names.length ca) (.slice B needs.length cb) a w' → Code.wp _ _ _ a w') => H _ _ (SrtJ.of (m := 0) rfl rfl HPR0.out HDN.out)) ?_
              rintro a wr ⟨u, W2, wb, wc, ub, fb, fc, uss, ws, yv, h, Ao, co, out, rfl, hP, hdn⟩
              have HDN := Lib.hid hdn
              clear hdn
              have HS := Lib.hid hP.so
              have HWT := Lib.hid hP.wt
              have HPR := Lib.hid hP
              clear hP
              have hfc : wr.cell? ⟨fc, 0, none⟩ = some (.pointer (some ⟨fb, 0, none⟩)) := by rw [blk_cell HS.out.fcw 0]; rfl
              obtain ⟨Ay, cy, rfl⟩ := own_form HS.out.rdy.own
              have hfb : wr.cell? ⟨fb, 0, none⟩ = some (.slice Ay h.length cy) := HS.out.rdy.cell.1
              have hhl := wt_len HWT.out
              have HLEN := Lib.hid (len_any Ay h.length cy wr)
              unfold frameS
              by_cases h0 : 0 < h.length
              · have h0i : (0 : Int) < (h.length : Int) := by omega
                have HPO := Lib.hid (heapPop_any W2.heap.size fb _ _ h wr HS.out.rdy HS.out.heap h0 (by omega))
                unfold hp HeapPop at HPO
                go_step3
                go_wp2_with fail
                refine HLEN.out.mono ?_
                rintro e w' ⟨rfl, hw⟩
                obtain rfl := hw.symm
                go_wp2_with fail
                refine HPO.out.mono ?_
                rintro e w3 ⟨x, rfl, v3, h3, hp3⟩
                obtain ⟨i, hxi, hin, hio, hie, hst⟩ := Wt.step_some HWT.out hp3.mem hp3.least
                subst hxi
                have HS3 := Lib.hid (HS.out.popped hp3)
                have hpp := hp3.parts HWT.out.nodup
                have hus := HPR.out.uc.users hin
                have HW3 := Lib.hid (HWT.out.begin hio hpp.1 hpp.2 hus.1)
                have HUS := Lib.hid hus
                have HOD := Lib.hid (HPR.out.od.snoc hin hio hie)
                have HNO := Lib.hid (fun (j : Nat) (hj : j < names.length) (h : j ∈ uss.getD i []) => Drv.user_out HPR.out.od hio hie (hus.1 j hj) h)
                have HOL := Lib.hid (Drv.nodup_le HOD.out.nodup HOD.out.lt)
                have hol := HOL.out
                rw [List.length_append, List.length_singleton] at hol
                have HSQ := Lib.hid (HPR.out.sq.trans (sortS_step (by omega) hst))
                have HZ2 := Lib.hid HS3.out.ch.size
                have hta : ∀ w, (Instr.typeAssert (.iface 3 (.int .i64 (i : Int))) 20 3 false).run Tryz.prog w = .ok (.int .i64 (i : Int)) w := fun _ => by kernel_rfl
                have hii : (i : Int) < (names.length : Int) := by omega
                clear hp3 hpp hus hst hie hio HPO HLEN HS HWT hfc hfb h0i
                obtain ⟨out2, hout2⟩ : ∃ out2, out2 = out ++ [i] := ⟨_, rfl⟩
                rw [← hout2] at HW3 HOD HNO HOL HSQ
                have HO2 := Lib.hid hout2
                have HOLN := Lib.hid (show out2.length = out.length + 1 by rw [hout2]; simp)
                clear hout2
                go_wp2_with (at_builtin; refine wpList_push rfl _ _ rfl W2.heap.size _ out rfl (HS3.out.ow.alloc _) ⟨w3.heap.size, 0, none⟩ i rfl ?_ ?_ ?_ _ HO2.out ?_)
                · exact (blk_cell (new_at _ (.cells #[.int .i64 (i : Int)] 3) _ rfl) 0).trans rfl
                · omega
                · have := HZ2.out; simp; omega
                · intro A5 c5 w5 hown5 _ hg5 hm5
                  have HS5 := Lib.hid (HS3.out.order (.cells #[.int .i64 (i : Int)] 3) hown5 hg5 hm5)
                  clear hown5 hg5 hm5 HS3
                  obtain ⟨adu, uu, hA, hcu, hu⟩ := OutS.get HPR.out.ur i (by rw [List.length_map, HPR.out.ul]; exact hin)
                  cases hA
                  have hcu2 := HS5.out.ch.cell (cell_lit hcu) (by have := HPR.out.ne; simp only; omega)
                  have hud : ((uss.map ofN).getD i default) = ofN (uss.getD i []) := by
                    simp [List.getD, show i < uss.length by rw [HPR.out.ul]; exact hin]
                  rw [hud] at hu
                  obtain ⟨L, hL⟩ : ∃ L, L = uss.getD i [] := ⟨_, rfl⟩
                  rw [← hL] at hu HUS HNO HW3
                  obtain ⟨Au, cu, rfl, hlu, hmu⟩ := RdS.form hu
                  rw [ofN_len] at *
                  unfold maxLen at hmu
                  have HU5 := Lib.hid hu
                  have HBD := Lib.hid HPR.out.bd
                  have HW5 : Hid (Wt names.length (edgeAt names needs) out2 (L.drop 0) ws h3) := Lib.hid (by rw [List.drop_zero]; exact HW3.out)
                  clear hu hcu hud hL HW3
                  go_wp2
                  go_loopw [97] (fun kv w6 => ∃ (k : Nat) (ws : List Int) (yv : Value) (h : List Int), k ≤ L.length ∧ kv = .int .i64 (k : Int) ∧ Hid (SoW W2 wb wc fc fb names.length w6 ws yv h (.slice A5 out2.length c5) out2) ∧ Hid (Wt names.length (edgeAt names needs) out2 (L.drop k) ws h) ∧ Hid (∀ j, j < names.length → ws.getD j 0 ≤ 100000)) (fun kv _ => L.length - (intOf kv).toNat)
                  case atStart => exact ⟨0, _, _, _, by omega, rfl, HS5, HW5, HBD⟩
                  case round =>
                    clear HS5 HW5 HBD hcu2 hta
                    clear h3
                    obtain ⟨k, ws, yv, h3, hk, rfl, HS, HWT, HBD⟩ := hrel
                    by_cases hlk : k < L.length
                    · have hki : (k : Int) < (L.length : Int) := by omega
                      obtain ⟨ad3, rfl, hcx⟩ := IRow.get (RdS.keep HU5.out (HS.out.ch.same _ fun b hb hs h => by
                        rcases h with h | h
                        · exact hs.1 h
                        · exact hs.2 h)) k (by rw [ofN_len]; exact hlk)
                      rw [ofN_get L k hlk] at hcx
                      have hjm : L.getD k 0 ∈ L := by simp [List.getD, hlk]
                      have hjn := HUS.out.2 _ hjm
                      have hjo := HNO.out _ hjn hjm
                      have hdr : L.drop k = L.getD k 0 :: L.drop (k + 1) := by
                        rw [List.drop_eq_getElem_cons hlk]; simp [List.getD, hlk]
                      rw [hdr] at HWT
                      generalize L.getD k 0 = j at *
                      have hji : (j : Int) < (names.length : Int) := by omega
                      have hw0 : wr.cell? ⟨wc, 0, none⟩ = some (.slice (some ⟨wb, 0, none⟩) names.length names.length) := by rw [blk_cell HS.out.wcw 0]; rfl
                      have hwbc : wr.cell? ⟨wb, j, none⟩ = some (.int .i64 (ws.getD j 0)) := by rw [blk_cell HS.out.wbk j, List.getElem?_toArray]; exact ints_get ws j (by rw [HS.out.wl]; exact hjn)
                      have hwbf := blk_free HS.out.wbk j
                      have hbd := HBD.out j hjn
                      have hcn := HWT.out.cnt j hjn
                      rw [List.count_cons_self] at hcn
                      have HS7 := Lib.hid (HS.out.wait j (ws.getD j 0 - 1))
                      have hjl : j < ws.length := by rw [HS.out.wl]; exact hjn
                      have HG7 := Lib.hid (show (ws.set j (ws.getD j 0 - 1)).getD j 0 = ws.getD j 0 - 1 by rw [Drv.getD_set _ _ _ _ hjl, if_pos rfl])
                      have HBD7 : Hid (∀ q, q < names.length → (ws.set j (ws.getD j 0 - 1)).getD q 0 ≤ 100000) := Lib.hid fun q hq => by
                        rw [Drv.getD_set _ _ _ _ hjl]
                        split
                        · omega
                        · exact HBD.out q hq
                      have HST7 := Lib.hid (fun (h0 : ws.getD j 0 - 1 ≠ 0) => HWT.out.stay hjn h0)
                      have HPU7 := Lib.hid (fun (h0 : ws.getD j 0 - 1 = 0) (h' : List Int) (hm : ∀ x : Int, x ∈ h' ↔ x ∈ h3 ∨ x = j) (hl : h'.length = h3.length + 1) => HWT.out.push hjn hjo h0 hm (nodup_cover ((j : Int) :: h3) h' (List.nodup_cons.2 ⟨HWT.out.not_in hjn, HWT.out.nodup⟩) (fun x hx => (hm x).2 (by
                        rcases List.mem_cons.1 hx with e | e
                        · exact .inr e
                        · exact .inl e)) (by simp; omega)).1)
                      have HRA := Lib.hid (ready_any W2 wb wc fc fb names.length _ _ yv h3 _ out2 HS7.out j hjn (by omega) (by have := wt_len HWT.out; omega) (by rw [HG7.out]; omega))
                      unfold ReadyPost at HRA
                      rw [HG7.out] at HRA
                      have hy1 : 1 ≤ ws.getD j 0 := by omega
                      obtain ⟨ws2, hws2⟩ : ∃ ws2, ws2 = ws.set j (ws.getD j 0 - 1) := ⟨_, rfl⟩
                      rw [← hws2] at HRA HBD7 HST7 HPU7
                      generalize ws.getD j 0 = y at *
                      clear hws2 hcn hdr HS HWT HBD HG7 HS7
                      go_wp2_with fail
                      refine HRA.out.mono ?_
                      rintro e w8 ⟨rfl, yv8, h8, hs8, hz8, hne8⟩
                      have HS8 := Lib.hid hs8
                      have HW8 := Lib.hid (show Wt names.length (edgeAt names needs) out2 (L.drop (k + 1)) ws2 h8 by
                        by_cases c : y - 1 = 0
                        · exact HPU7.out c h8 (hz8 c).1 (hz8 c).2
                        · rw [hne8 c]; exact HST7.out c)
                      clear hs8 hz8 hne8 HRA HST7 HPU7 hwbc hwbf hw0
                      go_wp2
                      go_roundw
                      case rel => exact ⟨k + 1, _, _, _, by omega, by go_num, HS8, HW8, HBD7⟩
                      case measure => simp [intOf]; omega
                    · have hki : ¬ (k : Int) < (L.length : Int) := by omega
                      have HJ := Lib.hid (show SrtP names.length (edgeAt names needs) w W2 wb wc ub fb fc uss ws yv h3 _ out2 wr from ⟨HS.out, by have := HWT.out; rwa [List.drop_eq_nil_of_le (by omega)] at this, HOD.out, HSQ.out, HBD.out, HPR.out.ur, HPR.out.uc, HPR.out.ul, HPR.out.bw, HPR.out.ne, HPR.out.lo⟩)
                      clear HS HWT HBD
                      go_wp2
                      go_step3
                      exact ⟨rfl, SrtJ.of rfl rfl HJ.out HDN.out⟩
              · have h0i : ¬ (0 : Int) < (h.length : Int) := by omega
                obtain rfl : h = [] := List.eq_nil_of_length_eq_zero (by omega)
                have HSN := Lib.hid HWT.out.step_none
                have HOW := Lib.hid (own_base HS.out.ow HPR.out.bw.size)
                have HBF := Lib.hid (HPR.out.bw.trans (HS.out.ch.below HPR.out.bw.size fun k h => by have := HPR.out.lo; omega))
                by_cases hof : out.length < names.length
                · have hofi : (out.length : Int) < (names.length : Int) := by omega
                  have HQ := Lib.hid (HPR.out.sq.trans (sortS_none hof HSN.out))
                  have HL1 := Lib.hid (show ([] : List Nat) = sortL names needs by unfold sortL; rw [HDN.out, HQ.out]; rfl)
                  have HC1 := Lib.hid (show (240 : Int) = sortC names needs by unfold sortC; rw [HDN.out, HQ.out]; rfl)
                  go_step3
                  go_wp2_with fail
                  refine HLEN.out.mono ?_
                  rintro e w' ⟨rfl, hw⟩
                  obtain rfl := hw.symm
                  go_wp2
                  exact HP.out _ _ _ _ HL1.out HC1.out (World.ownsRow_nil _ _ _ _) HBF.out
                · have hofi : ¬ (out.length : Int) < (names.length : Int) := by omega
                  have HQ := Lib.hid (HPR.out.sq.trans (sortS_end hof))
                  have HL1 := Lib.hid (show out = sortL names needs by unfold sortL; rw [HDN.out, HQ.out]; rfl)
                  have HC1 := Lib.hid (show (0 : Int) = sortC names needs by unfold sortC; rw [HDN.out, HQ.out]; rfl)
                  go_step3
                  go_wp2_with fail
                  refine HLEN.out.mono ?_
                  rintro e w' ⟨rfl, hw⟩
                  obtain rfl := hw.symm
                  go_wp2
                  exact HP.out _ _ _ _ HL1.out HC1.out HOW.out HBF.out
end Go.Proofs.YtbniilajffjfcaaGreatDoor
