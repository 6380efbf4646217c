/- archive: letter, textLen, nodeLen, length, Len; the reference's size. -/
import Derived.Test.YtcleebigfbbdbaaArcP
import Derived.Deep.RegionHeld3
set_option linter.unusedVariables false
set_option linter.unusedSimpArgs false
namespace Go.Proofs.Ytcleebigfbbdbaa
open Go Go.RowKit Go.BigFrame
open Fil (Es Nd Sp)
open Arc (BL num4 num2 encT letK encE encN sizE sizN)

theorem take_all : ∀ es : Es, takeE es.len es = es
  | .nil => by simp [Es.len, takeE]
  | .cons nm k d s nx => by simp only [Es.len, takeE, take_all nx]
theorem siz_take : ∀ (es : Es) (i : Nat), i < es.len → sizE (takeE (i + 1) es) = sizE (takeE i es) + (4 + (nmE es i).size + sizN (kidE es i))
  | .nil, _, h => by simp [Es.len] at h
  | .cons nm k d s nx, 0, _ => by
    show sizE (.cons nm k d s (takeE 0 nx)) = sizE (takeE 0 _) + (4 + nm.size + sizN ⟨k, d, s⟩)
    have e1 : takeE 0 nx = .nil := by unfold takeE; rfl
    have e2 : takeE 0 (.cons nm k d s nx) = .nil := by unfold takeE; rfl
    rw [e1, e2, Arc.sizE_cons]
    show _ + 0 = 0 + _
    omega
  | .cons nm k d s nx, i + 1, h => by
    have := siz_take nx i (by simp [Es.len] at h; omega)
    show sizE (.cons nm k d s (takeE (i + 1) nx)) = sizE (.cons nm k d s (takeE i nx)) + (4 + (nmE nx i).size + sizN (kidE nx i))
    rw [Arc.sizE_cons, Arc.sizE_cons, this]
    omega
theorem enc_take : ∀ (es : Es) (i : Nat), i < es.len → encE (takeE (i + 1) es) = encE (takeE i es) ++ (encT (nmE es i) ++ encN (kidE es i))
  | .nil, _, h => by simp [Es.len] at h
  | .cons nm k d s nx, 0, _ => by
    show encE (.cons nm k d s (takeE 0 nx)) = encE (takeE 0 _) ++ (encT nm ++ encN ⟨k, d, s⟩)
    have e1 : takeE 0 nx = .nil := by unfold takeE; rfl
    have e2 : takeE 0 (.cons nm k d s nx) = .nil := by unfold takeE; rfl
    rw [e1, e2, Arc.encE_cons]
    show _ ++ (_ ++ []) = [] ++ _
    rw [List.append_nil, List.nil_append]
  | .cons nm k d s nx, i + 1, h => by
    have := enc_take nx i (by simp [Es.len] at h; omega)
    show encE (.cons nm k d s (takeE (i + 1) nx)) = encE (.cons nm k d s (takeE i nx)) ++ (encT (nmE nx i) ++ encN (kidE nx i))
    rw [Arc.encE_cons, Arc.encE_cons, this]
    simp only [List.append_assoc]
theorem siz_take_le : ∀ (es : Es) (i : Nat), sizE (takeE i es) ≤ sizE es
  | es, 0 => by
    have e1 : takeE 0 es = .nil := by unfold takeE; rfl
    rw [e1]; exact Nat.zero_le _
  | .nil, i + 1 => Nat.zero_le _
  | .cons nm k d s nx, i + 1 => by
    have := siz_take_le nx i
    show sizE (.cons nm k d s (takeE i nx)) ≤ _
    rw [Arc.sizE_cons, Arc.sizE_cons]
    omega
theorem siz_take_zero (es : Es) : sizE (takeE 0 es) = 0 := by
  have e1 : takeE 0 es = .nil := by unfold takeE; rfl
  rw [e1]; rfl
theorem enc_take_zero (es : Es) : encE (takeE 0 es) = [] := by
  have e1 : takeE 0 es = .nil := by unfold takeE; rfl
  rw [e1]; rfl
theorem kid_siz (es : Es) (i : Nat) (h : i < es.len) : 4 + (nmE es i).size + sizN (kidE es i) ≤ sizE es := by
  have h1 := siz_take es i h
  have h2 := siz_take_le es (i + 1)
  omega
theorem kid_may : ∀ {es : Es} {i : Nat}, es.may = true → i < es.len → (kidE es i).may = true
  | .nil, _, _, h => by simp [Es.len] at h
  | .cons nm k d s nx, 0, hm, _ => by
    simp only [Es.may, Bool.and_eq_true] at hm
    show (Fil.okB k d s && s.may) = true
    rw [hm.1.1, hm.1.2]; rfl
  | .cons nm k d s nx, i + 1, hm, h => by
    simp only [Es.may, Bool.and_eq_true] at hm
    exact kid_may (es := nx) hm.2 (by simp [Es.len] at h; omega)
theorem may_kids {nd : Nd} (h : nd.may = true) : nd.es.may = true := by
  unfold Fil.Nd.may at h
  rw [Bool.and_eq_true] at h
  exact h.2
theorem may_kind {nd : Nd} (h : nd.may = true) : nd.k = 1 ∨ nd.k = 2 ∨ nd.k = 3 ∨ nd.k = 4 := by
  unfold Fil.Nd.may at h
  rw [Bool.and_eq_true] at h
  have h1 := h.1
  unfold Fil.okB at h1
  split at h1
  · omega
  · split at h1
    · omega
    · split at h1
      · omega
      · cases h1
set_option maxRecDepth 1000000 in
set_option maxRecDepth 100000 in
set_option maxHeartbeats 1000000 in
theorem letter_any (k : Nat) (w : World) : Calls Try.prog 27 #[.int .u8 (k : Int)] w fun e W => e = .returned (.int .u8 ((letK k).toNat : Int)) ∧ W = w := by
  have HL := Lib.hid (show letK k = if k = 1 then 70 else if k = 2 then 88 else if k = 3 then 76 else 68 from rfl)
  go_enter Try.func27, Try.ntmps27
  by_cases h1 : k = 1
  · have e1 : ((k : Int) == 1) = true := by rw [h1]; rfl
    have HF := Lib.hid (show letK k = 70 by rw [HL.out, if_pos h1])
    clear h1
    go_wp2
    go_ret
    exact ⟨by rw [HF.out]; rfl, rfl⟩
  have e1 : ((k : Int) == 1) = false := beq_eq_false_iff_ne.2 (by omega)
  by_cases h2 : k = 2
  · have e2 : ((k : Int) == 2) = true := by rw [h2]; rfl
    have HF := Lib.hid (show letK k = 88 by rw [HL.out, if_neg h1, if_pos h2])
    clear h1 h2
    go_wp2
    go_ret
    exact ⟨by rw [HF.out]; rfl, rfl⟩
  have e2 : ((k : Int) == 2) = false := beq_eq_false_iff_ne.2 (by omega)
  by_cases h3 : k = 3
  · have e3 : ((k : Int) == 3) = true := by rw [h3]; rfl
    have HF := Lib.hid (show letK k = 76 by rw [HL.out, if_neg h1, if_neg h2, if_pos h3])
    clear h1 h2 h3
    go_wp2
    go_ret
    exact ⟨by rw [HF.out]; rfl, rfl⟩
  have e3 : ((k : Int) == 3) = false := beq_eq_false_iff_ne.2 (by omega)
  have HF := Lib.hid (show letK k = 68 by rw [HL.out, if_neg h1, if_neg h2, if_neg h3])
  clear h1 h2 h3
  go_wp2
  go_ret
  exact ⟨by rw [HF.out]; rfl, rfl⟩
set_option maxRecDepth 1000000 in
theorem textLen_any (s : ByteArray) (hs : s.size ≤ 1000000000) (w : World) : Calls Try.prog 53 #[.string s] w fun e W => e = .returned (.int .i64 (4 + (s.size : Int))) ∧ W = w := by
  have hw : IntKind.i64.wrap ((4 : Int) + (s.size : Int)) = (4 : Int) + (s.size : Int) := IntWalk.i64_in _ (by omega)
  go_enter Try.func53, Try.ntmps53
  go_wp2
  go_ret
  exact ⟨rfl, rfl⟩
set_option maxRecDepth 1000000 in
set_option maxRecDepth 100000 in
set_option maxHeartbeats 4000000 in
theorem nodeLen_any : ∀ (m : Nat) (nd : Nd), nd.es.count ≤ m → sizN nd ≤ 1000000000 → ∀ (w : World) (B : Nat), B ≤ w.heap.size → ∀ v, NdV w B v nd → Calls Try.prog 43 #[v] w fun e W => e = .returned (.int .i64 (sizN nd : Int)) ∧ Below w.heap.size w W := by
  intro m
  induction m using Nat.strongRecOn with
  | ind m ih =>
  intro nd hm hbd w B hB v hv
  obtain ⟨ev, rfl, hes, hd, hk⟩ := hv
  obtain ⟨A, c, rfl, hlc, hcm⟩ := hes.form
  have HIH := Lib.hid (And.intro ih hm)
  clear ih hm
  go_enter Try.func43, Try.ntmps43
  have hbw0 : Below w.heap.size w (w.alloc (ndCells nd.k nd.d (.slice A nd.es.len c))) := (Below.refl _ w).alloc (Nat.le_refl _) _
  have hg0 : (w.alloc (ndCells nd.k nd.d (.slice A nd.es.len c))).heap[w.heap.size]? = some (ndCells nd.k nd.d (.slice A nd.es.len c)) := heap_alloc_new _ _
  have hsz : (w.alloc (ndCells nd.k nd.d (.slice A nd.es.len c))).heap.size = w.heap.size + 1 := by simp
  unfold ndCells at hbw0 hg0 hsz
  have HES := Lib.hid hes
  have HB := Lib.hid (And.intro hbw0 (And.intro hg0 hsz))
  clear hes hbw0 hg0 hsz
  have HSN := Lib.hid (show sizN nd = if nd.k = 4 then 3 + sizE nd.es else 5 + nd.d.size from rfl)
  by_cases h4 : nd.k = 4
  rotate_left
  · have e4 : ((nd.k : Int) != 4) = true := bne_iff_ne.2 (by omega)
    have hF : sizN nd = 5 + nd.d.size := by rw [HSN.out, if_neg h4]
    have HF := Lib.hid hF
    have HTL := Lib.hid (fun w' => textLen_any nd.d (by omega) w')
    have hw : IntKind.i64.wrap ((1 : Int) + (4 + (nd.d.size : Int))) = (1 : Int) + (4 + (nd.d.size : Int)) := IntWalk.i64_in _ (by omega)
    clear h4 hF
    go_wp2_with (go_at_call 53; refine (HTL.out _).mono ?_; rintro e W2 ⟨rfl, rfl⟩)
    go_ret
    exact ⟨by rw [HF.out]; simp; omega, HB.out.1⟩
  have e4 : ((nd.k : Int) != 4) = false := by rw [h4]; rfl
  have hF : sizN nd = 3 + sizE nd.es := by rw [HSN.out, if_pos h4]
  have HF := Lib.hid (And.intro hF hbd)
  clear hF h4 hbd
  go_wp2
  generalize hW0 : World.alloc _ _ = W0 at *
  clear hW0
  go_loopg [3, 16] nd.es.len (fun g u3 u16 wx => ∃ i : Nat, u3 = .int .i64 (3 + sizE (takeE i nd.es) : Int) ∧ u16 = .int .i64 (i : Int) ∧ i + g = nd.es.len ∧ Below W0.heap.size W0 wx)
  case atStart => exact ⟨0, by rw [siz_take_zero]; rfl, rfl, by omega, Below.refl _ _⟩
  case round =>
    obtain ⟨i, rfl, rfl, hig, hbw⟩ := hrel
    have hbl : Below w.heap.size w wr := HB.out.1.trans (hbw.mono (by have := HB.out.2.2; omega))
    cases gk with
    | zero =>
      obtain rfl : i = nd.es.len := by omega
      have HE := Lib.hid (take_all nd.es)
      go_wp2
      go_ret
      exact ⟨by rw [HF.out.1, HE.out]; simp, hbl⟩
    | succ g =>
      have hil : i < nd.es.len := by omega
      obtain ⟨ab, ao, rfl, hlt, hcs⟩ := es_addr HES.out (by omega)
      obtain ⟨hk1, hk2, hk3, hk4, A2, c2, hk5, hk6⟩ := kid_at hcs hil hlt
      obtain ⟨hnm, hnz⟩ := name_at hcs hil
      have hq0 : wr.cell? ⟨ab, ao + i * 4, none⟩ = _ := (hbl.cell (p := ⟨ab, ao + i * 4, none⟩) (by show ab < _; omega)).trans hnm
      have hq1 : wr.cell? ⟨ab, ao + i * 4 + 1, none⟩ = _ := (hbl.cell (p := ⟨ab, ao + i * 4 + 1, none⟩) (by show ab < _; omega)).trans hk1
      have hq2 : wr.cell? ⟨ab, ao + i * 4 + 2, none⟩ = _ := (hbl.cell (p := ⟨ab, ao + i * 4 + 2, none⟩) (by show ab < _; omega)).trans hk2
      have hq3 : wr.cell? ⟨ab, ao + i * 4 + 3, none⟩ = _ := (hbl.cell (p := ⟨ab, ao + i * 4 + 3, none⟩) (by show ab < _; omega)).trans hk5
      have hkc := kid_count nd.es i hil
      have hst := siz_take nd.es i hil
      have hks := kid_siz nd.es i hil
      have hle := siz_take_le nd.es (i + 1)
      have hfs := HF.out.1
      have hfb := HF.out.2
      obtain ⟨y, hy⟩ : ∃ y, y = kidE nd.es i := ⟨_, rfl⟩
      obtain ⟨nm, hnmE⟩ : ∃ nm, nm = nmE nd.es i := ⟨_, rfl⟩
      rw [← hy] at hq1 hq2 hq3 hk3 hk4 hk6 hst hks hkc
      rw [← hnmE] at hq0 hst hks
      have hw1 : IntKind.i64.wrap ((4 : Int) + (nm.size : Int) + (sizN y : Int)) = (4 : Int) + (nm.size : Int) + (sizN y : Int) := IntWalk.i64_in _ (by omega)
      have hw2 : IntKind.i64.wrap ((3 : Int) + (sizE (takeE i nd.es) : Int) + ((4 : Int) + (nm.size : Int) + (sizN y : Int))) = (3 : Int) + (sizE (takeE i nd.es) : Int) + ((4 : Int) + (nm.size : Int) + (sizN y : Int)) := IntWalk.i64_in _ (by omega)
      have hw3 : IntKind.i64.wrap ((i : Int) + 1) = (i : Int) + 1 := IntWalk.i64_in _ (by unfold maxLen at hcm; omega)
      have HTL := Lib.hid (fun w' => textLen_any nm (by omega) w')
      obtain ⟨wb, eb, hgb, hbb⟩ : ∃ wb, wb = wr.alloc (.cells #[.string nm, .int .u8 (y.k : Int), .string y.d, .slice A2 y.es.len c2] 42) ∧ wb.heap[wr.heap.size]? = some (.cells #[.string nm, .int .u8 (y.k : Int), .string y.d, .slice A2 y.es.len c2] 42 (0, 0)) ∧ Below wr.heap.size wr wb := ⟨_, rfl, heap_alloc_new _ _, (Below.refl _ _).alloc (Nat.le_refl _) _⟩
      have HIHK := Lib.hid (fun (w' : World) (h : KeepW wb wb.heap.size w') => h.calls (HIH.out.1 y.es.count (by have := HIH.out.2; omega) y (Nat.le_refl _) (by omega) w' B (by have := h.2; have := hbb.size; have := hbl.size; omega) (.agg #[.int .u8 (y.k : Int), .string y.d, .slice A2 y.es.len c2]) ⟨_, rfl, hk6.keep (((hbl.trans (hbb.mono hbl.size)).trans (h.1.mono (by have := hbb.size; have := hbl.size; omega))).mono hB), hk3, hk4⟩))
      have HST := Lib.hid hst
      have HBB := Lib.hid hbb
      have HS := Lib.hid (fun (w' : World) (h : KeepW wb wb.heap.size w') => show w'.cell? ⟨wr.heap.size, 0, none⟩ = some (.string nm) ∧ w'.cell? ⟨wr.heap.size, 1, none⟩ = some (.int .u8 (y.k : Int)) ∧ w'.cell? ⟨wr.heap.size, 2, none⟩ = some (.string y.d) ∧ w'.cell? ⟨wr.heap.size, 3, none⟩ = some (.slice A2 y.es.len c2) from by
        have hb := (h.1.block wr.heap.size (block_lt hgb)).trans hgb
        refine ⟨?_, ?_, ?_, ?_⟩ <;> (rw [cell_of_row _ _ _ _ _ _ hb]; rfl))
      have HK0 := Lib.hid (KeepW.start (Nat.le_refl wb.heap.size))
      clear hkc hcs hk1 hk2 hk3 hk4 hk5 hk6 hnm hnz hst hks hle hfs hfb hy hnmE hgb hbb
      go_upto_region 7 with (fail)
      rw [← eb]
      clear eb hq0 hq1 hq2 hq3
      go_region_held3 (fun w' => w'.cell? ⟨wr.heap.size, 0, none⟩ = some (.string nm) ∧ w'.cell? ⟨wr.heap.size, 1, none⟩ = some (.int .u8 (y.k : Int)) ∧ w'.cell? ⟨wr.heap.size, 2, none⟩ = some (.string y.d) ∧ w'.cell? ⟨wr.heap.size, 3, none⟩ = some (.slice A2 y.es.len c2)) (first | exact HS.out _ (by first | assumption | exact KeepW.drew HK0.out | exact KeepW.drew (by assumption)) | go_keep) (first
        | (go_at_call 53; refine (HTL.out _).mono ?_; rintro e W2 ⟨rfl, hw9⟩; obtain rfl := hw9.symm)
        | (go_at_call 43; refine (HIHK.out _ (by first | assumption | exact KeepW.drew HK0.out)).mono ?_; rintro e W2 ⟨rfl, hk2⟩))
      all_goals
        have HK2 := Lib.hid (show KeepW wb wb.heap.size _ from hk2)
        clear hk2
        go_wp2
        go_roundg g
        case measure => omega
        case rel => exact ⟨i + 1, by rw [HST.out]; simp []; try omega, by simp, by omega, hbw.trans ((HBB.out.trans (HK2.out.1.mono HBB.out.size)).mono hbw.size)⟩
end Go.Proofs.Ytcleebigfbbdbaa
