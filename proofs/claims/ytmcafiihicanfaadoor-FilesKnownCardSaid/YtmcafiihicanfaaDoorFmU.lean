/- files: the reference's Count, Size, Depth. -/
import Derived.Test.YtmcafiihicanfaaDoorFmS
set_option linter.unusedVariables false
set_option linter.unusedSimpArgs false
namespace Go.Proofs.YtmcafiihicanfaaDoor
open Go Go.RowKit Go.BigFrame
open Fil (Es Nd Sp)

/-- A sum over the first entries. -/
def sumTo (f : Nd → Nat) : Es → Nat → Nat
  | .nil, _ => 0
  | .cons _ _ _ _ _, 0 => 0
  | .cons _ k d s nx, i + 1 => f ⟨k, d, s⟩ + sumTo f nx i
def maxTo (f : Nd → Nat) : Es → Nat → Nat
  | .nil, _ => 0
  | .cons _ _ _ _ _, 0 => 0
  | .cons _ k d s nx, i + 1 => max (f ⟨k, d, s⟩) (maxTo f nx i)
theorem sumTo_zero (f : Nd → Nat) (es : Es) : sumTo f es 0 = 0 := by cases es <;> rfl
theorem maxTo_zero (f : Nd → Nat) (es : Es) : maxTo f es 0 = 0 := by cases es <;> rfl
theorem sumTo_step (f : Nd → Nat) : ∀ (es : Es) (i : Nat), i < es.len → sumTo f es (i + 1) = sumTo f es i + f (kidE es i)
  | .nil, _, h => by simp [Es.len] at h
  | .cons _ k d s nx, 0, _ => by simp [sumTo, sumTo_zero, kidE]
  | .cons _ k d s nx, i + 1, h => by
    have := sumTo_step f nx i (by simp [Es.len] at h; omega)
    simp only [sumTo, kidE] at this ⊢
    omega
theorem maxTo_step (f : Nd → Nat) : ∀ (es : Es) (i : Nat), i < es.len → maxTo f es (i + 1) = max (maxTo f es i) (f (kidE es i))
  | .nil, _, h => by simp [Es.len] at h
  | .cons _ k d s nx, 0, _ => by simp [maxTo, maxTo_zero, kidE]
  | .cons _ k d s nx, i + 1, h => by
    have := maxTo_step f nx i (by simp [Es.len] at h; omega)
    simp only [maxTo, kidE] at this ⊢
    omega
theorem sumTo_le (f : Nd → Nat) : ∀ (es : Es) (i : Nat), sumTo f es i ≤ sumTo f es es.len
  | .nil, _ => Nat.le_refl _
  | .cons _ k d s nx, 0 => Nat.zero_le _
  | .cons _ k d s nx, i + 1 => by
    have := sumTo_le f nx i
    simp only [sumTo, Es.len]
    omega
theorem sumTo_count : ∀ es : Es, sumTo Nd.count es es.len = es.count
  | .nil => rfl
  | .cons _ k d s nx => by
    have := sumTo_count nx
    simp only [sumTo, Es.len, Es.count, Nd.count] at this ⊢
    omega
theorem sumTo_size : ∀ es : Es, sumTo Nd.size es es.len = es.size
  | .nil => rfl
  | .cons _ k d s nx => by
    have := sumTo_size nx
    simp only [sumTo, Es.len, Es.size, Nd.size] at this ⊢
    omega
theorem maxTo_depth : ∀ es : Es, maxTo (fun n => 1 + n.depth) es es.len = es.depth
  | .nil => rfl
  | .cons _ k d s nx => by
    have := maxTo_depth nx
    simp only [maxTo, Es.len, Es.depth, Nd.depth] at this ⊢
    omega
theorem kid_count : ∀ (es : Es) (i : Nat), i < es.len → (kidE es i).es.count < es.count ∧ (kidE es i).es.size ≤ es.size ∧ (kidE es i).d.size + (kidE es i).es.size ≤ es.size ∧ (kidE es i).es.depth < es.depth
  | .nil, _, h => by simp [Es.len] at h
  | .cons _ k d s nx, 0, _ => by simp [Es.count, Es.size, Es.depth, kidE]; omega
  | .cons _ k d s nx, i + 1, h => by
    have := kid_count nx i (by simp [Es.len] at h; omega)
    simp only [Es.count, Es.size, Es.depth, kidE] at this ⊢
    omega
set_option maxRecDepth 1000000 in
set_option maxRecDepth 100000 in
set_option maxHeartbeats 4000000 in
theorem refCount_any : ∀ (m : Nat) (nd : Nd), nd.es.count ≤ m → nd.es.count ≤ 1000000000 → ∀ (w : World) (B : Nat), B ≤ w.heap.size → ∀ v, NdV w B v nd → Calls Tryd.prog 17 #[v] w fun e W => e = .returned (.int .i64 (nd.count : Int)) ∧ Below w.heap.size w W := by
  intro m
  induction m using Nat.strongRecOn with
  | ind m ih =>
  intro nd hm hbd w B hB v hv
  obtain ⟨ev, rfl, hes, hd, hk⟩ := hv
  obtain ⟨A, c, rfl, hlc, hcm⟩ := hes.form
  have HIH := Lib.hid (And.intro ih hm)
  clear ih hm
  go_enter Tryd.func17, Tryd.ntmps17
  have hbw0 : Below w.heap.size w (w.alloc (ndCells nd.k nd.d (.slice A nd.es.len c))) := (Below.refl _ w).alloc (Nat.le_refl _) _
  have hg0 : (w.alloc (ndCells nd.k nd.d (.slice A nd.es.len c))).heap[w.heap.size]? = some (ndCells nd.k nd.d (.slice A nd.es.len c)) := heap_alloc_new _ _
  have hsz : (w.alloc (ndCells nd.k nd.d (.slice A nd.es.len c))).heap.size = w.heap.size + 1 := by simp
  unfold ndCells at hbw0 hg0 hsz
  have HES := Lib.hid hes
  clear hes
  skip
  go_wp2
  have HB := Lib.hid (And.intro hbw0 (And.intro hg0 hsz))
  clear hbw0 hg0 hsz 
  generalize World.alloc _ _ = W0 at *
  go_loopg [3, 4] nd.es.len (fun g u3 u4 wx => ∃ i : Nat, u3 = .int .i64 (1 + sumTo Nd.count nd.es i : Int) ∧ u4 = .int .i64 (i : Int) ∧ i + g = nd.es.len ∧ Below W0.heap.size W0 wx)
  case atStart => exact ⟨0, by simp [sumTo_zero], rfl, by omega, Below.refl _ _⟩
  case round =>
    obtain ⟨i, rfl, rfl, hig, hbw⟩ := hrel
    have hbl : Below w.heap.size w wr := HB.out.1.trans (hbw.mono (by have := HB.out.2.2; omega))
    have hbx : wr.heap[w.heap.size]? = some (ndCells nd.k nd.d (.slice A nd.es.len c)) := (hbw.block _ (by have := HB.out.2.2; omega)).trans HB.out.2.1
    obtain ⟨hn0, hn1, hn2, _⟩ := nd_box hbx
    clear hn0 hn1 hbx
    cases gk with
    | zero =>
      obtain rfl : i = nd.es.len := by omega
      have HE := Lib.hid (sumTo_count nd.es)
      go_wp2
      go_ret
      exact ⟨by rw [HE.out]; simp [Nd.count], hbl⟩
    | succ g =>
      have hil : i < nd.es.len := by omega
      obtain ⟨ab, ao, rfl, hlt, hcs⟩ := es_addr HES.out (by omega)
      obtain ⟨hk1, hk2, hk3, hk4, A2, c2, hk5, hk6⟩ := kid_at hcs hil hlt
      have hq1 : wr.cell? ⟨ab, ao + i * 4 + 1, none⟩ = _ := (hbl.cell (p := ⟨ab, ao + i * 4 + 1, none⟩) (by show ab < _; omega)).trans hk1
      have hq2 : wr.cell? ⟨ab, ao + i * 4 + 2, none⟩ = _ := (hbl.cell (p := ⟨ab, ao + i * 4 + 2, none⟩) (by show ab < _; omega)).trans hk2
      have hq3 : wr.cell? ⟨ab, ao + i * 4 + 3, none⟩ = _ := (hbl.cell (p := ⟨ab, ao + i * 4 + 3, none⟩) (by show ab < _; omega)).trans hk5
      have hkc := kid_count nd.es i hil
      have hst := sumTo_step Nd.count nd.es i hil
      have hle := sumTo_le Nd.count nd.es (i + 1)
      have hal := sumTo_count nd.es
      have hw1 : IntKind.i64.wrap ((1 : Int) + (sumTo Nd.count nd.es i : Int) + ((kidE nd.es i).count : Int)) = (1 : Int) + (sumTo Nd.count nd.es i : Int) + ((kidE nd.es i).count : Int) := IntWalk.i64_in _ (by omega)
      clear hle hal
      have HREC := Lib.hid (HIH.out.1 (kidE nd.es i).es.count (by have := HIH.out.2; omega) (kidE nd.es i) (Nat.le_refl _) (by omega) wr B (Nat.le_trans hB hbl.size) _ ⟨_, rfl, hk6.keep (hbl.mono hB), hk3, hk4⟩)
      have HST := Lib.hid hst
      have hw2 : IntKind.i64.wrap ((i : Int) + 1) = (i : Int) + 1 := IntWalk.i64_in _ (by unfold maxLen at hcm; omega)
      clear hkc hcs hk1 hk2 hk3 hk4 hk5 hk6 hst
      go_wp2_with (go_at_call 17; refine HREC.out.mono ?_; rintro e W2 ⟨rfl, hb2⟩)
      go_roundg g
      case measure => omega
      case rel => exact ⟨i + 1, by rw [HST.out]; simp []; try omega, by simp, by omega, hbw.trans (hb2.mono hbw.size)⟩
set_option maxRecDepth 1000000 in
set_option maxRecDepth 100000 in
set_option maxHeartbeats 4000000 in
theorem refSize_any : ∀ (m : Nat) (nd : Nd), nd.es.count ≤ m → nd.size ≤ 1000000000 → ∀ (w : World) (B : Nat), B ≤ w.heap.size → ∀ v, NdV w B v nd → Calls Tryd.prog 21 #[v] w fun e W => e = .returned (.int .i64 (nd.size : Int)) ∧ Below w.heap.size w W := by
  intro m
  induction m using Nat.strongRecOn with
  | ind m ih =>
  intro nd hm hbd w B hB v hv
  obtain ⟨ev, rfl, hes, hd, hk⟩ := hv
  obtain ⟨A, c, rfl, hlc, hcm⟩ := hes.form
  have HIH := Lib.hid (And.intro ih hm)
  clear ih hm
  go_enter Tryd.func21, Tryd.ntmps21
  have hbw0 : Below w.heap.size w (w.alloc (ndCells nd.k nd.d (.slice A nd.es.len c))) := (Below.refl _ w).alloc (Nat.le_refl _) _
  have hg0 : (w.alloc (ndCells nd.k nd.d (.slice A nd.es.len c))).heap[w.heap.size]? = some (ndCells nd.k nd.d (.slice A nd.es.len c)) := heap_alloc_new _ _
  have hsz : (w.alloc (ndCells nd.k nd.d (.slice A nd.es.len c))).heap.size = w.heap.size + 1 := by simp
  unfold ndCells at hbw0 hg0 hsz
  have HES := Lib.hid hes
  clear hes
  skip
  go_wp2
  have HB := Lib.hid (And.intro hbw0 (And.intro hg0 hsz))
  clear hbw0 hg0 hsz 
  generalize World.alloc _ _ = W0 at *
  go_loopg [3, 4] nd.es.len (fun g u3 u4 wx => ∃ i : Nat, u3 = .int .i64 (nd.d.size + sumTo Nd.size nd.es i : Int) ∧ u4 = .int .i64 (i : Int) ∧ i + g = nd.es.len ∧ Below W0.heap.size W0 wx)
  case atStart => exact ⟨0, by simp [sumTo_zero], rfl, by omega, Below.refl _ _⟩
  case round =>
    obtain ⟨i, rfl, rfl, hig, hbw⟩ := hrel
    have hbl : Below w.heap.size w wr := HB.out.1.trans (hbw.mono (by have := HB.out.2.2; omega))
    have hbx : wr.heap[w.heap.size]? = some (ndCells nd.k nd.d (.slice A nd.es.len c)) := (hbw.block _ (by have := HB.out.2.2; omega)).trans HB.out.2.1
    obtain ⟨hn0, hn1, hn2, _⟩ := nd_box hbx
    clear hn0 hn1 hbx
    cases gk with
    | zero =>
      obtain rfl : i = nd.es.len := by omega
      have HE := Lib.hid (sumTo_size nd.es)
      go_wp2
      go_ret
      exact ⟨by rw [HE.out]; simp [Nd.size], hbl⟩
    | succ g =>
      have hil : i < nd.es.len := by omega
      obtain ⟨ab, ao, rfl, hlt, hcs⟩ := es_addr HES.out (by omega)
      obtain ⟨hk1, hk2, hk3, hk4, A2, c2, hk5, hk6⟩ := kid_at hcs hil hlt
      have hq1 : wr.cell? ⟨ab, ao + i * 4 + 1, none⟩ = _ := (hbl.cell (p := ⟨ab, ao + i * 4 + 1, none⟩) (by show ab < _; omega)).trans hk1
      have hq2 : wr.cell? ⟨ab, ao + i * 4 + 2, none⟩ = _ := (hbl.cell (p := ⟨ab, ao + i * 4 + 2, none⟩) (by show ab < _; omega)).trans hk2
      have hq3 : wr.cell? ⟨ab, ao + i * 4 + 3, none⟩ = _ := (hbl.cell (p := ⟨ab, ao + i * 4 + 3, none⟩) (by show ab < _; omega)).trans hk5
      have hkc := kid_count nd.es i hil
      have hst := sumTo_step Nd.size nd.es i hil
      have hle := sumTo_le Nd.size nd.es (i + 1)
      have hal := sumTo_size nd.es
      have hns : nd.size = nd.d.size + nd.es.size := rfl
      have hks : (kidE nd.es i).size = (kidE nd.es i).d.size + (kidE nd.es i).es.size := rfl
      have hw1 : IntKind.i64.wrap ((nd.d.size : Int) + (sumTo Nd.size nd.es i : Int) + ((kidE nd.es i).size : Int)) = (nd.d.size : Int) + (sumTo Nd.size nd.es i : Int) + ((kidE nd.es i).size : Int) := IntWalk.i64_in _ (by omega)
      have hrb : (kidE nd.es i).size ≤ 1000000000 := by omega
      clear hle hal hns hks
      have HREC := Lib.hid (HIH.out.1 (kidE nd.es i).es.count (by have := HIH.out.2; omega) (kidE nd.es i) (Nat.le_refl _) hrb wr B (Nat.le_trans hB hbl.size) _ ⟨_, rfl, hk6.keep (hbl.mono hB), hk3, hk4⟩)
      have HST := Lib.hid hst
      have hw2 : IntKind.i64.wrap ((i : Int) + 1) = (i : Int) + 1 := IntWalk.i64_in _ (by unfold maxLen at hcm; omega)
      clear hkc hcs hk1 hk2 hk3 hk4 hk5 hk6 hst
      go_wp2_with (go_at_call 21; refine HREC.out.mono ?_; rintro e W2 ⟨rfl, hb2⟩)
      go_roundg g
      case measure => omega
      case rel => exact ⟨i + 1, by rw [HST.out]; simp []; try omega, by simp, by omega, hbw.trans (hb2.mono hbw.size)⟩
set_option maxRecDepth 1000000 in
set_option maxRecDepth 100000 in
set_option maxHeartbeats 4000000 in
theorem refDepth_any : ∀ (m : Nat) (nd : Nd), nd.es.count ≤ m → nd.depth ≤ 1000000000 → ∀ (w : World) (B : Nat), B ≤ w.heap.size → ∀ v, NdV w B v nd → Calls Tryd.prog 19 #[v] w fun e W => e = .returned (.int .i64 (nd.depth : Int)) ∧ Below w.heap.size w W := by
  intro m
  induction m using Nat.strongRecOn with
  | ind m ih =>
  intro nd hm hbd w B hB v hv
  obtain ⟨ev, rfl, hes, hd, hk⟩ := hv
  obtain ⟨A, c, rfl, hlc, hcm⟩ := hes.form
  have HIH := Lib.hid (And.intro ih hm)
  clear ih hm
  go_enter Tryd.func19, Tryd.ntmps19
  have hbw0 : Below w.heap.size w (w.alloc (ndCells nd.k nd.d (.slice A nd.es.len c))) := (Below.refl _ w).alloc (Nat.le_refl _) _
  have hg0 : (w.alloc (ndCells nd.k nd.d (.slice A nd.es.len c))).heap[w.heap.size]? = some (ndCells nd.k nd.d (.slice A nd.es.len c)) := heap_alloc_new _ _
  have hsz : (w.alloc (ndCells nd.k nd.d (.slice A nd.es.len c))).heap.size = w.heap.size + 1 := by simp
  unfold ndCells at hbw0 hg0 hsz
  have HES := Lib.hid hes
  clear hes
  skip
  go_wp2
  have HB := Lib.hid (And.intro hbw0 (And.intro hg0 hsz))
  clear hbw0 hg0 hsz 
  generalize World.alloc _ _ = W0 at *
  go_loopg [3, 4] nd.es.len (fun g u3 u4 wx => ∃ i : Nat, u3 = .int .i64 (maxTo (fun n => 1 + n.depth) nd.es i : Int) ∧ u4 = .int .i64 (i : Int) ∧ i + g = nd.es.len ∧ Below W0.heap.size W0 wx)
  case atStart => exact ⟨0, by simp [maxTo_zero], rfl, by omega, Below.refl _ _⟩
  case round =>
    obtain ⟨i, rfl, rfl, hig, hbw⟩ := hrel
    have hbl : Below w.heap.size w wr := HB.out.1.trans (hbw.mono (by have := HB.out.2.2; omega))
    have hbx : wr.heap[w.heap.size]? = some (ndCells nd.k nd.d (.slice A nd.es.len c)) := (hbw.block _ (by have := HB.out.2.2; omega)).trans HB.out.2.1
    obtain ⟨hn0, hn1, hn2, _⟩ := nd_box hbx
    clear hn0 hn1 hbx
    cases gk with
    | zero =>
      obtain rfl : i = nd.es.len := by omega
      have HE := Lib.hid (maxTo_depth nd.es)
      go_wp2
      go_ret
      exact ⟨by rw [HE.out]; simp [Nd.depth], hbl⟩
    | succ g =>
      have hil : i < nd.es.len := by omega
      obtain ⟨ab, ao, rfl, hlt, hcs⟩ := es_addr HES.out (by omega)
      obtain ⟨hk1, hk2, hk3, hk4, A2, c2, hk5, hk6⟩ := kid_at hcs hil hlt
      have hq1 : wr.cell? ⟨ab, ao + i * 4 + 1, none⟩ = _ := (hbl.cell (p := ⟨ab, ao + i * 4 + 1, none⟩) (by show ab < _; omega)).trans hk1
      have hq2 : wr.cell? ⟨ab, ao + i * 4 + 2, none⟩ = _ := (hbl.cell (p := ⟨ab, ao + i * 4 + 2, none⟩) (by show ab < _; omega)).trans hk2
      have hq3 : wr.cell? ⟨ab, ao + i * 4 + 3, none⟩ = _ := (hbl.cell (p := ⟨ab, ao + i * 4 + 3, none⟩) (by show ab < _; omega)).trans hk5
      have hkc := kid_count nd.es i hil
      have hst := maxTo_step (fun n => 1 + n.depth) nd.es i hil
      have hns : nd.depth = nd.es.depth := rfl
      have hks : (kidE nd.es i).depth = (kidE nd.es i).es.depth := rfl
      have hw1 : IntKind.i64.wrap ((1 : Int) + ((kidE nd.es i).depth : Int)) = (1 : Int) + ((kidE nd.es i).depth : Int) := IntWalk.i64_in _ (by omega)
      have hrb : (kidE nd.es i).depth ≤ 1000000000 := by omega
      clear hns hks
      have HREC := Lib.hid (HIH.out.1 (kidE nd.es i).es.count (by have := HIH.out.2; omega) (kidE nd.es i) (Nat.le_refl _) hrb wr B (Nat.le_trans hB hbl.size) _ ⟨_, rfl, hk6.keep (hbl.mono hB), hk3, hk4⟩)
      have HST := Lib.hid hst
      have hw2 : IntKind.i64.wrap ((i : Int) + 1) = (i : Int) + 1 := IntWalk.i64_in _ (by unfold maxLen at hcm; omega)
      clear hkc hcs hk1 hk2 hk3 hk4 hk5 hk6 hst
      go_wp2_with (go_at_call 19; refine HREC.out.mono ?_; rintro e W2 ⟨rfl, hb2⟩)
      all_goals
        go_roundg g
        case measure => omega
        case rel => exact ⟨i + 1, by congr 1; have h9 : maxTo (fun n => 1 + n.depth) nd.es (i + 1) = max (maxTo (fun n => 1 + n.depth) nd.es i) (1 + (kidE nd.es i).depth) := HST.out; omega, by simp, by omega, hbw.trans (hb2.mono hbw.size)⟩
end Go.Proofs.YtmcafiihicanfaaDoor

/- files: the reference's Name. -/
namespace Go.Proofs.YtmcafiihicanfaaDoor
open Go Go.RowKit Go.BigFrame
open Fil (Es Nd Sp badB)

theorem nameB_eq2 (s : ByteArray) : Fil.nameB s = (decide ((1 : Int) ≤ (s.size : Int)) && decide ((s.size : Int) ≤ 255) && !(s.toList == [46]) && !(s.toList == [46, 46]) && !s.data.toList.any badB) := by
  have e1 : decide (1 ≤ s.size) = decide ((1 : Int) ≤ (s.size : Int)) := by rw [decide_eq_decide]; omega
  have e2 : decide (s.size ≤ 255) = decide ((s.size : Int) ≤ 255) := by rw [decide_eq_decide]; omega
  unfold Fil.nameB
  rw [e1, e2, eq_toList, eq_toList]
  rw [show (⟨#[46]⟩ : ByteArray).toList = [46] by rw [Lib.toList_data], show (⟨#[46, 46]⟩ : ByteArray).toList = [46, 46] by rw [Lib.toList_data]]
theorem bad_val (x : UInt8) : badB x = (((x.toNat : Int) == 47) || ((x.toNat : Int) == 0)) := by
  unfold badB
  have h1 : (x == 47) = ((x.toNat : Int) == 47) := by
    by_cases h : x = 47
    · subst h; rfl
    · rw [beq_eq_false_iff_ne.2 h]; symm; refine beq_eq_false_iff_ne.2 fun e => h ?_
      exact UInt8.toNat_inj.1 (show x.toNat = 47 by omega)
  have h2 : (x == 0) = ((x.toNat : Int) == 0) := by
    by_cases h : x = 0
    · subst h; rfl
    · rw [beq_eq_false_iff_ne.2 h]; symm; refine beq_eq_false_iff_ne.2 fun e => h ?_
      exact UInt8.toNat_inj.1 (show x.toNat = 0 by omega)
  rw [h1, h2]
set_option maxRecDepth 1000000 in
set_option maxRecDepth 100000 in
set_option maxHeartbeats 4000000 in
theorem refName_any (s : ByteArray) (hs : s.size ≤ maxLen) (w : World) :
    Calls Tryd.prog 11 #[.string s] w fun e W => e = .returned (.bool (Fil.nameB s)) ∧ W = w := by
  go_enter Tryd.func11, Tryd.ntmps11
  go_wp2
  go_loopg [3] s.size (fun g u3 wx => ∃ i : Nat, u3 = .int .i64 (i : Int) ∧ i + g = s.size ∧ wx = w ∧ Hid (NoBad s i))
  case atStart => exact ⟨0, rfl, by omega, rfl, fun j b hj => by omega⟩
  case round =>
    obtain ⟨i, rfl, hig, rfl, HN⟩ := hrel
    cases gk with
    | zero =>
      obtain rfl : i = s.size := by omega
      have HE := Lib.hid (show Fil.nameB s = (decide ((1 : Int) ≤ (s.size : Int)) && decide ((s.size : Int) ≤ 255) && !(s.toList == [46]) && !(s.toList == [46, 46])) by rw [nameB_eq2, HN.out.all (Nat.le_refl _)]; simp)
      rcases Bool.eq_false_or_eq_true (decide ((1 : Int) ≤ (s.size : Int))) with h1 | h1
      rotate_left
      · have HQ := Lib.hid (show Fil.nameB s = false by rw [HE.out, h1]; rfl)
        go_wp2
        go_ret
        exact ⟨by rw [HQ.out]; rfl, rfl⟩
      rcases Bool.eq_false_or_eq_true (decide ((s.size : Int) ≤ 255)) with h2 | h2
      rotate_left
      · have HQ := Lib.hid (show Fil.nameB s = false by rw [HE.out, h1, h2]; rfl)
        go_wp2
        go_ret
        exact ⟨by rw [HQ.out]; rfl, rfl⟩
      rcases Bool.eq_false_or_eq_true (s.toList == [46]) with h3 | h3
      · have HQ := Lib.hid (show Fil.nameB s = false by rw [HE.out, h1, h2, h3]; rfl)
        go_wp2
        go_ret
        exact ⟨by rw [HQ.out]; rfl, rfl⟩
      rcases Bool.eq_false_or_eq_true (s.toList == [46, 46]) with h4 | h4
      · have HQ := Lib.hid (show Fil.nameB s = false by rw [HE.out, h1, h2, h3, h4]; rfl)
        go_wp2
        go_ret
        exact ⟨by rw [HQ.out]; rfl, rfl⟩
      · have HQ := Lib.hid (show Fil.nameB s = true by rw [HE.out, h1, h2, h3, h4]; rfl)
        go_wp2
        go_ret
        exact ⟨by rw [HQ.out]; rfl, rfl⟩
    | succ g =>
      have hil : i < s.size := by omega
      obtain ⟨x, hx⟩ : ∃ x : UInt8, s[i]'hil = x := ⟨_, rfl⟩
      have HX := Lib.hid (show s.data.toList[i]? = some x by rw [← hx]; exact Lib.data_getElem? s i hil)
      have hw1 : IntKind.i64.wrap ((i : Int) + 1) = (i : Int) + 1 := IntWalk.i64_in _ (by unfold maxLen at hs; omega)
      have HBV := Lib.hid (bad_val x)
      have HF := Lib.hid (show badB x = true → Fil.nameB s = false from fun hb => by rw [nameB_eq2, List.any_eq_true.2 ⟨x, List.mem_of_getElem? HX.out, hb⟩]; simp)
      rcases Bool.eq_false_or_eq_true ((x.toNat : Int) == 47) with h47 | h47
      · have HQ := Lib.hid (HF.out (by rw [HBV.out, h47]; rfl))
        go_wp2
        go_ret
        exact ⟨by rw [HQ.out]; rfl, rfl⟩
      rcases Bool.eq_false_or_eq_true ((x.toNat : Int) == 0) with h0 | h0
      · have HQ := Lib.hid (HF.out (by rw [HBV.out, h47, h0]; rfl))
        go_wp2
        go_ret
        exact ⟨by rw [HQ.out]; rfl, rfl⟩
      have HQ := Lib.hid (show badB x = false by rw [HBV.out, h47, h0]; rfl)
      go_wp2
      go_roundg g
      case measure => omega
      case rel =>
        refine ⟨i + 1, by simp, by omega, rfl, fun j b hj hb => ?_⟩
        rcases Nat.lt_or_ge j i with hji | hji
        · exact HN.out j b hji hb
        · obtain rfl : j = i := by omega
          rw [HX.out] at hb
          cases hb
          exact HQ.out
end Go.Proofs.YtmcafiihicanfaaDoor

/- files: the law's Weight. -/
namespace Go.Proofs.YtmcafiihicanfaaDoor
open Go Go.RowKit Go.BigFrame
open Fil (Es Nd Sp badB)

/-- How much entries have: nodes, bytes of names and data. -/
def weiE : Es → Nat
  | .nil => 0
  | .cons nm _ d s nx => nm.size + (1 + d.size + weiE s) + weiE nx
def weiN (nd : Nd) : Nat := 1 + nd.d.size + weiE nd.es
def nmE : Es → Nat → ByteArray
  | .nil, _ => ⟨#[]⟩
  | .cons nm _ _ _ _, 0 => nm
  | .cons _ _ _ _ nx, i + 1 => nmE nx i
def weiTo : Es → Nat → Nat
  | .nil, _ => 0
  | .cons _ _ _ _ _, 0 => 0
  | .cons nm k d s nx, i + 1 => nm.size + weiN ⟨k, d, s⟩ + weiTo nx i
theorem weiTo_zero (es : Es) : weiTo es 0 = 0 := by cases es <;> rfl
theorem weiTo_step : ∀ (es : Es) (i : Nat), i < es.len → weiTo es (i + 1) = weiTo es i + (nmE es i).size + weiN (kidE es i)
  | .nil, _, h => by simp [Es.len] at h
  | .cons nm k d s nx, 0, _ => by simp [weiTo, weiTo_zero, kidE, nmE]
  | .cons nm k d s nx, i + 1, h => by
    have := weiTo_step nx i (by simp [Es.len] at h; omega)
    simp only [weiTo, kidE, nmE] at this ⊢
    omega
theorem weiTo_all : ∀ es : Es, weiTo es es.len = weiE es
  | .nil => rfl
  | .cons nm k d s nx => by
    have := weiTo_all nx
    simp only [weiTo, Es.len, weiE, weiN] at this ⊢
    omega
theorem weiTo_le : ∀ (es : Es) (i : Nat), weiTo es i ≤ weiE es
  | .nil, _ => Nat.le_refl _
  | .cons _ k d s nx, 0 => Nat.zero_le _
  | .cons nm k d s nx, i + 1 => by
    have := weiTo_le nx i
    simp only [weiTo, weiE, weiN]
    omega
theorem name_at {w : World} {B : Nat} : ∀ {es : Es} {ab ao i : Nat}, CellsAt w B es ⟨ab, ao, none⟩ → i < es.len → w.cell? ⟨ab, ao + i * 4, none⟩ = some (.string (nmE es i)) ∧ (nmE es i).size ≤ maxLen
  | .nil, _, _, _, _, h => by simp [Es.len] at h
  | .cons nm k d s nx, ab, ao, 0, hc, _ => ⟨by simpa [nmE] using hc.1, hc.2.2.2.1⟩
  | .cons nm k d s nx, ab, ao, i + 1, hc, h => by
    obtain ⟨h0, h1, h2, h3, h4, h5, h6, h11⟩ := hc
    rw [add_none] at h11
    have ih := name_at (i := i) h11 (by simp [Es.len] at h; omega)
    rw [show ao + 4 + i * 4 = ao + (i + 1) * 4 by omega] at ih
    exact ih
/-- What Weight tells. -/
def WeiPost (w : World) (nd : Nd) (top : Nat) (e : Ending) (W : World) : Prop :=
  Below w.heap.size w W ∧ ∃ r : Nat, e = .returned (.int .i64 (r : Int)) ∧ r ≤ 2 * top + 2 ∧ (r ≤ top → r = weiN nd) ∧ (top < r → top < weiN nd)
set_option maxRecDepth 1000000 in
set_option maxRecDepth 100000 in
set_option maxHeartbeats 4000000 in
theorem weight_any : ∀ (m : Nat) (nd : Nd), nd.es.count ≤ m → ∀ top : Nat, top ≤ 1000000 → ∀ (w : World) (B : Nat), B ≤ w.heap.size → ∀ v, NdV w B v nd → Calls Tryd.prog 13 #[v, .int .i64 (top : Int)] w (WeiPost w nd top) := by
  intro m
  induction m using Nat.strongRecOn with
  | ind m ih =>
  intro nd hm top htop w B hB v hv
  obtain ⟨ev, rfl, hes, hd, hk⟩ := hv
  obtain ⟨A, c, rfl, hlc, hcm⟩ := hes.form
  have HIH := Lib.hid (And.intro ih hm)
  clear ih hm
  go_enter Tryd.func13, Tryd.ntmps13
  have hbw0 : Below w.heap.size w (w.alloc (ndCells nd.k nd.d (.slice A nd.es.len c))) := (Below.refl _ w).alloc (Nat.le_refl _) _
  have hg0 : (w.alloc (ndCells nd.k nd.d (.slice A nd.es.len c))).heap[w.heap.size]? = some (ndCells nd.k nd.d (.slice A nd.es.len c)) := heap_alloc_new _ _
  have hsz : (w.alloc (ndCells nd.k nd.d (.slice A nd.es.len c))).heap.size = w.heap.size + 1 := by simp
  unfold ndCells at hbw0 hg0 hsz
  have HES := Lib.hid hes
  have HB := Lib.hid (And.intro hbw0 (And.intro hg0 hsz))
  clear hes hbw0 hg0 hsz
  have ht1 : IntKind.i64.wrap ((top : Int) + 1) = (top : Int) + 1 := IntWalk.i64_in _ (by omega)
  rcases Bool.eq_false_or_eq_true (decide (top < nd.d.size)) with hbig | hbig
  · have HBG := Lib.hid (of_decide_eq_true hbig)
    go_wp2
    go_ret
    refine ⟨HB.out.1, top + 1, by simp, by omega, fun h => by omega, fun _ => ?_⟩
    have := HBG.out
    unfold weiN
    omega
  have hds : (nd.d.size : Int) ≤ (top : Int) := by have := of_decide_eq_false hbig; omega
  have hd1 : IntKind.i64.wrap ((1 : Int) + (nd.d.size : Int)) = (1 : Int) + (nd.d.size : Int) := IntWalk.i64_in _ (by omega)
  go_wp2
  clear hbig hd1
  generalize hW0 : World.alloc _ _ = W0 at *
  clear hW0
  go_loopg [5, 6] nd.es.len (fun g u5 u6 wx => ∃ (i r : Nat), u5 = .int .i64 (r : Int) ∧ u6 = .int .i64 (i : Int) ∧ i + g = nd.es.len ∧ Below W0.heap.size W0 wx ∧ r ≤ 2 * top + 2 ∧ Hid ((r ≤ top → r = 1 + nd.d.size + weiTo nd.es i) ∧ (top < r → top < 1 + nd.d.size + weiTo nd.es i)))
  case atStart => exact ⟨0, 1 + nd.d.size, by simp, rfl, by omega, Below.refl _ _, by omega, fun _ => by rw [weiTo_zero]; omega, fun _ => by rw [weiTo_zero]; omega⟩
  case round =>
    obtain ⟨i, r, rfl, rfl, hig, hbw, hr2, HR⟩ := hrel
    have hbl : Below w.heap.size w wr := HB.out.1.trans (hbw.mono (by have := HB.out.2.2; omega))
    have hbx : wr.heap[w.heap.size]? = some (ndCells nd.k nd.d (.slice A nd.es.len c)) := (hbw.block _ (by have := HB.out.2.2; omega)).trans HB.out.2.1
    obtain ⟨hn0, hn1, hn2, _⟩ := nd_box hbx
    clear hn0 hn1 hbx
    rcases Bool.eq_false_or_eq_true (decide (r ≤ top)) with hrt | hrt
    rotate_left
    · have HRT := Lib.hid (of_decide_eq_false hrt)
      go_wp2
      all_goals
        go_ret
        refine ⟨hbl, r, rfl, hr2, fun h => by have := HRT.out; omega, fun h => ?_⟩
        have := HR.out.2 h
        have := weiTo_le nd.es i
        unfold weiN
        omega
    have HRT := Lib.hid (of_decide_eq_true hrt)
    cases gk with
    | zero =>
      obtain rfl : i = nd.es.len := by omega
      have HAL := Lib.hid (weiTo_all nd.es)
      go_wp2
      go_ret
      refine ⟨hbl, r, rfl, hr2, fun h => ?_, fun h => by have := HRT.out; omega⟩
      have := HR.out.1 h
      have := HAL.out
      unfold weiN
      omega
    | succ g =>
      have hil : i < nd.es.len := by omega
      obtain ⟨ab, ao, rfl, hlt, hcs⟩ := es_addr HES.out (by omega)
      obtain ⟨hk1, hk2, hk3, hk4, A2, c2, hk5, hk6⟩ := kid_at hcs hil hlt
      obtain ⟨hnm, hnz⟩ := name_at hcs hil
      have hq0 : wr.cell? ⟨ab, ao + i * 4, none⟩ = _ := (hbl.cell (p := ⟨ab, ao + i * 4, none⟩) (by show ab < _; omega)).trans hnm
      have hq1 : wr.cell? ⟨ab, ao + i * 4 + 1, none⟩ = _ := (hbl.cell (p := ⟨ab, ao + i * 4 + 1, none⟩) (by show ab < _; omega)).trans hk1
      have hq2 : wr.cell? ⟨ab, ao + i * 4 + 2, none⟩ = _ := (hbl.cell (p := ⟨ab, ao + i * 4 + 2, none⟩) (by show ab < _; omega)).trans hk2
      have hq3 : wr.cell? ⟨ab, ao + i * 4 + 3, none⟩ = _ := (hbl.cell (p := ⟨ab, ao + i * 4 + 3, none⟩) (by show ab < _; omega)).trans hk5
      have HST := Lib.hid (weiTo_step nd.es i hil)
      have hkc := kid_count nd.es i hil
      have HREC := Lib.hid (fun (t : Nat) (ht : t ≤ 1000000) (z : Int) (hz : z = (t : Int)) => (by subst hz; exact HIH.out.1 (kidE nd.es i).es.count (by have := HIH.out.2; omega) (kidE nd.es i) (Nat.le_refl _) t ht wr B (Nat.le_trans hB hbl.size) _ ⟨_, rfl, hk6.keep (hbl.mono hB), hk3, hk4⟩ : Calls Tryd.prog 13 #[.agg #[.int .u8 ((kidE nd.es i).k : Int), .string (kidE nd.es i).d, .slice A2 (kidE nd.es i).es.len c2], .int .i64 z] wr (WeiPost wr (kidE nd.es i) t)))
      have HLE := Lib.hid (weiTo_le nd.es (i + 1))
      have hw2 : IntKind.i64.wrap ((i : Int) + 1) = (i : Int) + 1 := IntWalk.i64_in _ (by unfold maxLen at hcm; omega)
      clear hkc hcs hk1 hk2 hk3 hk4 hk5 hk6 hnm hnz
      rcases Bool.eq_false_or_eq_true (decide (top < (nmE nd.es i).size)) with hnb | hnb
      · have HNB := Lib.hid (of_decide_eq_true hnb)
        go_wp2
        go_ret
        refine ⟨hbl, top + 1, by simp, by omega, fun h => by omega, fun _ => ?_⟩
        have := HNB.out
        have := HST.out
        have := HLE.out
        unfold weiN
        omega
      have HNB := Lib.hid (of_decide_eq_false hnb)
      have hw3 : IntKind.i64.wrap ((r : Int) + ((nmE nd.es i).size : Int)) = (r : Int) + ((nmE nd.es i).size : Int) := IntWalk.i64_in _ (by have := HNB.out; omega)
      rcases Bool.eq_false_or_eq_true (decide ((r : Int) + ((nmE nd.es i).size : Int) ≤ (top : Int))) with hrn | hrn
      rotate_left
      · have HRN := Lib.hid (of_decide_eq_false hrn)
        have hrn' : decide (r + (nmE nd.es i).size ≤ top) = false := decide_eq_false (by have := HRN.out; omega)
        go_wp2
        go_roundg g
        case measure => omega
        case rel =>
          have h1 := HRN.out
          have h2 := HNB.out
          have h3 := HST.out
          have h4 := HRT.out
          have h5 := HR.out.1 (by omega)
          exact ⟨i + 1, r + (nmE nd.es i).size, by simp, by simp, by omega, hbw, by omega, fun h => by omega, fun h => by omega⟩
      · have HRN := Lib.hid (of_decide_eq_true hrn)
        have hrn' : decide (r + (nmE nd.es i).size ≤ top) = true := decide_eq_true (by have := HRN.out; omega)
        obtain ⟨t, ht⟩ : ∃ t : Nat, (top : Int) - ((r : Int) + ((nmE nd.es i).size : Int)) = (t : Int) := ⟨top - (r + (nmE nd.es i).size), by have := HRN.out; omega⟩
        have hw4 : IntKind.i64.wrap ((top : Int) - ((r : Int) + ((nmE nd.es i).size : Int))) = (t : Int) := by rw [ht]; exact IntWalk.i64_in _ (by omega)
        have HT := Lib.hid ht
        have hw5 : ∀ q : Nat, q ≤ 2 * t + 2 → IntKind.i64.wrap ((r : Int) + ((nmE nd.es i).size : Int) + (q : Int)) = (r : Int) + ((nmE nd.es i).size : Int) + (q : Int) := fun q hq => IntWalk.i64_in _ (by have := HRN.out; omega)
        have HW5 := Lib.hid hw5
        clear hw5
        clear ht
        go_wp2_with (go_at_call 13; refine (HREC.out t (by have := HT.out; omega) (t : Int) rfl).mono ?_; rintro e W2 ⟨hb2, q, rfl, hq1', hq2', hq3'⟩; have hw6 := HW5.out q hq1')
        go_roundg g
        case measure => omega
        case rel =>
          have h1 := HRN.out
          have h2 := HNB.out
          have h3 := HST.out
          have h4 := HRT.out
          have h5 := HR.out.1 (by omega)
          have h6 := HT.out
          exact ⟨i + 1, r + (nmE nd.es i).size + q, by simp, by simp, by omega, hbw.trans (hb2.mono hbw.size), by omega, fun h => by have := hq2' (by omega); omega, fun h => by have := hq3' (by omega); omega⟩
end Go.Proofs.YtmcafiihicanfaaDoor

/- files: the reference's Find. -/
namespace Go.Proofs.YtmcafiihicanfaaDoor
open Go Go.RowKit Go.BigFrame
open Fil (Es Nd Sp badB)

def findN (nd : Nd) (nm : ByteArray) : Int := if (placeN nd nm).2 then ((placeN nd nm).1 : Int) else -1
set_option maxRecDepth 1000000 in
set_option maxRecDepth 100000 in
set_option maxHeartbeats 4000000 in
theorem find_any (w : World) (B : Nat) (hB : B ≤ w.heap.size) (v : Value) (nd : Nd) (hv : NdV w B v nd) (nm : ByteArray) :
    Calls Tryd.prog 46 #[v, .string nm] w fun e W => e = .returned (.int .i64 (findN nd nm)) ∧ Below w.heap.size w W := by
  obtain ⟨ev, rfl, hes, hd, hk⟩ := hv
  obtain ⟨A, c, rfl, hlc, hcm⟩ := hes.form
  go_enter Tryd.func46, Tryd.ntmps46
  have hbw0 : Below w.heap.size w (w.alloc (.cells #[.int .u8 (nd.k : Int), .string nd.d, .slice A nd.es.len c] 26)) := (Below.refl _ w).alloc (Nat.le_refl _) _
  have HES := Lib.hid hes
  have HB := Lib.hid hbw0
  clear hes hbw0
  have HF := Lib.hid (show findN nd nm = if nd.k = 4 then (match idxE nm nd.es with | some i => (i : Int) | none => -1) else -1 by
    unfold findN placeN
    by_cases h4 : nd.k = 4
    · rw [if_pos h4, if_pos h4]
      cases idxE nm nd.es <;> rfl
    · rw [if_neg h4, if_neg h4]; rfl)
  go_wp2
  go_loopg [5] nd.es.len (fun g u5 wx => ∃ (rest : Es) (i : Nat), u5 = .int .i64 (i : Int) ∧ i + g = nd.es.len ∧ wx = w.alloc (.cells #[.int .u8 (nd.k : Int), .string nd.d, .slice A nd.es.len c] 26) ∧ Hid (rest.len = g ∧ (0 < g → ∃ a, A = some a ∧ a.block < B ∧ CellsAt w B rest (a.add (4 * i))) ∧ (nd.k = 4 → idxE nm nd.es = (idxE nm rest).map (· + i))))
  case atStart =>
    refine ⟨nd.es, 0, rfl, by omega, rfl, rfl, fun hp => ?_, fun _ => by simp⟩
    obtain ⟨ab, ao, hA, hlt, hcc⟩ := es_addr HES.out hp
    exact ⟨_, hA, hlt, by simpa [add_none] using hcc⟩
  case round =>
    obtain ⟨rest, i, rfl, hig, rfl, HR⟩ := hrel
    cases gk with
    | zero =>
      have HN := Lib.hid (show findN nd nm = -1 by
        obtain ⟨e1, _, e2⟩ := HR.out
        rw [HF.out]
        by_cases h4 : nd.k = 4
        · rw [if_pos h4, e2 h4]
          cases rest with
          | nil => rfl
          | cons _ _ _ _ _ => simp [Es.len] at e1
        · rw [if_neg h4])
      obtain rfl : i = nd.es.len := by omega
      go_wp2
      go_ret
      exact ⟨by rw [HN.out]; rfl, HB.out⟩
    | succ g =>
      obtain ⟨e1, e2, e3⟩ := HR.out
      cases rest with
      | nil => simp [Es.len] at e1
      | cons nm' k d s n' =>
        obtain ⟨ab, ao, rfl, hlt, _⟩ := es_addr HES.out (by omega)
        obtain ⟨a, ha, _, hcc⟩ := e2 (by omega)
        obtain rfl : a = ⟨ab, ao, none⟩ := (Option.some.inj ha).symm
        obtain ⟨hc0, _, _, hnm, _, _, _, hct⟩ := hcc
        have hc0' : (w.alloc (.cells #[.int .u8 (nd.k : Int), .string nd.d, .slice (some ⟨ab, ao, none⟩) nd.es.len c] 26)).cell? ⟨ab, ao + i * 4, none⟩ = some (.string nm') := by
          rw [HB.out.cell (p := ⟨ab, ao + i * 4, none⟩) (Nat.lt_of_lt_of_le hlt hB)]
          rw [add_none, Nat.mul_comm] at hc0
          exact hc0
        have hil : i < nd.es.len := by omega
        have hw1 : IntKind.i64.wrap ((i : Int) + 1) = (i : Int) + 1 := IntWalk.i64_in _ (by unfold maxLen at hcm; omega)
        have hlen : n'.len = g := by simp [Es.len] at e1; exact e1
        have HX := Lib.hid (And.intro hct (And.intro hlt (And.intro hlen e3)))
        clear e1 e2 e3 hc0 hct hlt hlen ha hnm
        by_cases h4 : nd.k = 4
        · have e4 : ((nd.k : Int) == 4) = true := by rw [h4]; rfl
          have H4 := Lib.hid h4
          clear h4
          rcases Bool.eq_false_or_eq_true (nm'.toList == nm.toList) with hq | hq
          · have HN := Lib.hid (show findN nd nm = (i : Int) by rw [HF.out, if_pos H4.out, HX.out.2.2.2 H4.out]; simp only [idxE, hq, if_true, Option.map_some]; simp)
            go_wp2
            go_ret
            exact ⟨by rw [HN.out]; rfl, HB.out⟩
          · have HN := Lib.hid (show idxE nm nd.es = (idxE nm n').map (· + (i + 1)) by rw [HX.out.2.2.2 H4.out]; simp only [idxE, hq, Bool.false_eq_true, if_false, Option.map_map]; congr 1; funext x; simp; omega)
            go_wp2
            go_roundg g
            case measure => omega
            case rel =>
              refine ⟨n', i + 1, by simp, by omega, rfl, HX.out.2.2.1, fun hp => ⟨_, rfl, HX.out.2.1, ?_⟩, fun _ => HN.out⟩
              have := HX.out.1
              rw [add_none, add_none] at this
              rw [add_none]
              rw [show ao + 4 * (i + 1) = ao + 4 * i + 4 by omega]
              exact this
        · have e4 : ((nd.k : Int) == 4) = false := beq_eq_false_iff_ne.2 (by omega)
          have H4 := Lib.hid h4
          clear h4
          go_wp2
          go_roundg g
          case measure => omega
          case rel =>
            refine ⟨n', i + 1, by simp, by omega, rfl, HX.out.2.2.1, fun hp => ⟨_, rfl, HX.out.2.1, ?_⟩, fun h => absurd h H4.out⟩
            have := HX.out.1
            rw [add_none, add_none] at this
            rw [add_none]
            rw [show ao + 4 * (i + 1) = ao + 4 * i + 4 by omega]
            exact this
end Go.Proofs.YtmcafiihicanfaaDoor

/- files: the reference's Names. -/
namespace Go.Proofs.YtmcafiihicanfaaDoor
open Go Go.RowKit Go.BigFrame
open Fil (Es Nd Sp badB)

theorem infoStrF : (Tryd.prog.info? 9).map (fun i => (i.zero, i.size, i.bytes)) = some (some (.string ⟨#[]⟩), 1, 16) := by kernel_rfl
def NamesPost (w : World) (s : ByteArray) (e : Ending) (W : World) : Prop :=
  Below w.heap.size w W ∧ match rowN s with
  | none => e = .returned (.tuple #[.slice none 0 0, .bool false])
  | some l => ∃ v, e = .returned (.tuple #[v, .bool true]) ∧ W.ownsRow w.heap.size 9 1 v l.length (l.map Value.string)
/-- Between two rounds: the names that are done, where the next begins. -/
structure NmInv (w : World) (s : ByteArray) (done : List ByteArray) (fr i : Nat) (v : Value) (W : World) : Prop where
  own : W.ownsRow w.heap.size 9 1 v done.length (done.map Value.string)
  below : Below w.heap.size w W
  ok : ∀ x ∈ done, Fil.nameB x = true
  few : done.length ≤ fr
  le : fr ≤ i
  some' : i ≤ s.size → done.map (·.data.toList) ++ Ver.parts 47 (s.data.toList.drop fr) = Ver.parts 47 s.data.toList ∧ (47 : UInt8) ∉ (s.data.toList.drop fr).take (i - fr)
  all' : i = s.size + 1 → done.map (·.data.toList) = Ver.parts 47 s.data.toList
theorem texts_inj : ∀ {a b : List ByteArray}, a.map (·.data.toList) = b.map (·.data.toList) → a = b
  | [], [], _ => rfl
  | [], _ :: _, h => by simp at h
  | _ :: _, [], h => by simp at h
  | x :: a, y :: b, h => by
    simp only [List.map_cons, List.cons.injEq] at h
    have hxy : x = y := by cases x; cases y; simp only [ByteArray.mk.injEq]; exact Array.toList_inj.1 h.1
    rw [hxy, texts_inj h.2]
theorem seg_data (s : ByteArray) (a b : Nat) : (s.extract a b).data.toList = (s.data.toList.drop a).take (b - a) := by
  rw [ByteArray.data_extract, Array.toList_extract, List.extract_eq_take_drop]
theorem seg_size (s : ByteArray) (a b : Nat) : (s.extract a b).size ≤ s.size := by
  rw [Lib.size_eq, seg_data, Lib.size_eq s, List.length_take, List.length_drop]
  omega
theorem NmInv.seg {w : World} {s : ByteArray} {done : List ByteArray} {fr i : Nat} {v : Value} {W : World} (h : NmInv w s done fr i v W) (hi : i ≤ s.size) (hx : i = s.size ∨ s.data.toList[i]? = some 47) :
    (i < s.size → done.map (·.data.toList) ++ ((s.extract fr i).data.toList :: Ver.parts 47 (s.data.toList.drop (i + 1))) = Ver.parts 47 s.data.toList) ∧ (i = s.size → done.map (·.data.toList) ++ [(s.extract fr i).data.toList] = Ver.parts 47 s.data.toList) := by
  obtain ⟨h1, h2⟩ := h.some' hi
  have hL := Lib.size_eq s
  rw [seg_data]
  refine ⟨fun hlt => ?_, fun he => ?_⟩
  · have h47 : s.data.toList[i]? = some 47 := by
      rcases hx with e | e
      · omega
      · exact e
    have hd : s.data.toList.drop fr = (s.data.toList.drop fr).take (i - fr) ++ 47 :: s.data.toList.drop (i + 1) := by
      have e := (List.take_append_drop (i - fr) (s.data.toList.drop fr)).symm
      rw [List.drop_drop, show fr + (i - fr) = i by have := h.le; omega] at e
      have hlt2 : i < s.data.toList.length := by omega
      rw [List.drop_eq_getElem_cons hlt2] at e
      rw [List.getElem?_eq_getElem hlt2] at h47
      rw [Option.some.inj h47] at e
      exact e
    rw [hd, Ver.parts_app 47 _ _ h2] at h1
    exact h1
  · have hd : (s.data.toList.drop fr).take (i - fr) = s.data.toList.drop fr := List.take_of_length_le (by simp; omega)
    rw [hd] at h2 ⊢
    rw [Ver.parts_not 47 _ h2] at h1
    exact h1
theorem seg_in {s x : ByteArray} (h : x.data.toList ∈ Ver.parts 47 s.data.toList) : x ∈ piecesB 47 s := by
  rw [← pieces_data, List.mem_map] at h
  obtain ⟨y, hy, e⟩ := h
  have hxy : y = x := by cases x; cases y; simp only [ByteArray.mk.injEq]; exact Array.toList_inj.1 e
  rwa [← hxy]
set_option maxRecDepth 1000000 in
set_option maxRecDepth 100000 in
set_option maxHeartbeats 4000000 in
theorem names_any (s : ByteArray) (hs : s.size ≤ 1000000) (w : World) : Calls Tryd.prog 45 #[.string s] w (NamesPost w s) := by
  go_enter Tryd.func45, Tryd.ntmps45
  rcases Bool.eq_false_or_eq_true s.toList.isEmpty with he | he
  · have HR := Lib.hid (show rowN s = some [] by unfold rowN; rw [if_pos he])
    go_wp2
    go_ret2
    refine ⟨Below.refl _ _, ?_⟩
    rw [HR.out]
    exact ⟨_, rfl, World.ownsRow_nil _ _ _ _⟩
  have HR := Lib.hid (show rowN s = if (piecesB 47 s).all Fil.nameB then some (piecesB 47 s) else none by unfold rowN; rw [if_neg (by simp [he])])
  have HPD := Lib.hid (pieces_data 47 s)
  obtain ⟨i0, hi0, hz0, hz1, hzb⟩ := info_parts infoStrF
  go_wp2
  go_loopg [4, 5, 6] (s.size + 1) (fun g u4 u5 u6 wx => ∃ (done : List ByteArray) (fr i : Nat), u5 = .int .i64 (fr : Int) ∧ u6 = .int .i64 (i : Int) ∧ i + g = s.size + 1 ∧ fr ≤ i ∧ Hid (NmInv w s done fr i u4 wx))
  case atStart => exact ⟨[], 0, 0, rfl, rfl, by omega, Nat.le_refl _, ⟨World.ownsRow_nil _ _ _ _, Below.refl _ _, by simp, Nat.le_refl _, Nat.le_refl _, fun _ => by simp, fun h => by omega⟩⟩
  case round =>
    obtain ⟨done, fr, i, rfl, rfl, hig, hfi, HI⟩ := hrel
    cases gk with
    | zero =>
      obtain rfl : i = s.size + 1 := by omega
      have HN := Lib.hid (show rowN s = some done by
        have e : done = piecesB 47 s := texts_inj ((HI.out.all' rfl).trans HPD.out.symm)
        rw [HR.out, if_pos (by rw [← e, List.all_eq_true]; exact HI.out.ok), ← e])
      go_wp2
      go_ret2
      refine ⟨HI.out.below, ?_⟩
      rw [HN.out]
      exact ⟨_, rfl, HI.out.own⟩
    | succ g =>
      have his : i ≤ s.size := by omega
      have hw1 : IntKind.i64.wrap ((i : Int) + 1) = (i : Int) + 1 := IntWalk.i64_in _ (by omega)
      rcases Nat.lt_or_ge i s.size with hlt | hge
      · obtain ⟨x, hx⟩ : ∃ x : UInt8, s[i]'hlt = x := ⟨_, rfl⟩
        have hxl : s.data.toList[i]? = some x := by rw [← hx]; exact Lib.data_getElem? s i hlt
        rcases Decidable.em (x = 47) with h47 | h47
        · subst h47
          have hne : (((47 : UInt8).toNat : Int) != 47) = false := rfl
          have HSEG := Lib.hid ((HI.out.seg his (.inr hxl)).1 hlt)
          clear hxl
          have HMEM := Lib.hid (show (s.extract fr i).data.toList ∈ Ver.parts 47 s.data.toList by rw [← HSEG.out]; simp)
          have HNM := Lib.hid (fun w => refName_any (s.extract fr i) (by have := seg_size s fr i; unfold maxLen; omega) w)
          rcases Bool.eq_false_or_eq_true (Fil.nameB (s.extract fr i)) with hn | hn
          · have HOK := Lib.hid hn
            go_wp2_with (first
              | (go_at_call 11; refine (HNM.out _).mono ?_; intro e W h; obtain ⟨h1, h2⟩ := h; have h3 := h2.symm; subst h3; subst h1; rw [hn])
              | (at_builtin; refine wpList_append_own _ rfl _ _ 35 rfl w.heap.size 9 i0 (.string ⟨#[]⟩) 1 16 Tryd.underlying35 hi0 hz0 hz1 hzb rfl (by decide) _ _ _ rfl (HI.out.own.alloc _) ⟨wr.heap.size, 0, none⟩ 1 1 [.string (s.extract fr i)] rfl rfl ?c1 ?c2 ?c3 ?c4 ?c5 ?_))
            case c1 => exact cell_one_new _ _ _
            case c2 => intro u hu; simp at hu; subst hu; rfl
            case c3 => have := HI.out.few; unfold maxLen; omega
            case c4 => have := HI.out.few; omega
            case c5 => have := HI.out.below.size; simp; omega
            intro v' w4 hown4 hgrow _
            have HG := Lib.hid (And.intro hown4 hgrow)
            clear hown4 hgrow
            go_wp2
            go_roundg g
            case measure => omega
            case rel =>
              have hbl : Below w.heap.size w w4 := (HI.out.below.alloc HI.out.below.size _).grown HG.out.2 (by simp; exact Nat.le_succ_of_le HI.out.below.size) (fun k e => (HI.out.own.lt k e).1)
              refine ⟨done ++ [s.extract fr i], i + 1, i + 1, by simp, by simp, by omega, Nat.le_refl _, ⟨by simpa using HG.out.1, hbl, fun y hy => ?_, by have := HI.out.few; simp; omega, Nat.le_refl _, ?_, ?_⟩⟩
              · rw [List.mem_append, List.mem_singleton] at hy
                rcases hy with hy | rfl
                · exact HI.out.ok y hy
                · exact HOK.out
              · intro _
                refine ⟨?_, by simp⟩
                rw [← HSEG.out]
                simp
              · intro h9; omega
          · have HN := Lib.hid (show rowN s = none by
              rw [HR.out, if_neg]
              intro ha
              rw [List.all_eq_true] at ha
              have := ha _ (seg_in HMEM.out)
              rw [hn] at this
              cases this)
            go_wp2_with (go_at_call 11; refine (HNM.out _).mono ?_; intro e W h; obtain ⟨h1, h2⟩ := h; have h3 := h2.symm; subst h3; subst h1; rw [hn])
            go_ret2
            refine ⟨HI.out.below, ?_⟩
            rw [HN.out]
            rfl
        · have hne : ((x.toNat : Int) != 47) = true := bne_iff_ne.2 (fun e => h47 (UInt8.toNat_inj.1 (show x.toNat = 47 by omega)))
          have HX := Lib.hid (And.intro hxl h47)
          clear hxl h47
          go_wp2
          go_roundg g
          case measure => omega
          case rel =>
            refine ⟨done, fr, i + 1, rfl, by simp, by omega, by omega, ⟨HI.out.own, HI.out.below, HI.out.ok, HI.out.few, by omega, fun hi1 => ⟨(HI.out.some' his).1, ?_⟩, fun hi1 => by omega⟩⟩
            have h2 := (HI.out.some' his).2
            have hL := Lib.size_eq s
            rw [show i + 1 - fr = (i - fr) + 1 by omega, List.take_add_one, List.mem_append]
            rintro (h3 | h3)
            · exact h2 h3
            · rw [List.getElem?_drop, show fr + (i - fr) = i by omega, HX.out.1] at h3
              simp at h3
              exact HX.out.2 h3.symm
      · obtain rfl : i = s.size := by omega
        have HSEG := Lib.hid ((HI.out.seg his (.inl rfl)).2 rfl)
        clear hge
        have HMEM := Lib.hid (show (s.extract fr s.size).data.toList ∈ Ver.parts 47 s.data.toList by rw [← HSEG.out]; simp)
        have HNM := Lib.hid (fun w => refName_any (s.extract fr s.size) (by have := seg_size s fr s.size; unfold maxLen; omega) w)
        rcases Bool.eq_false_or_eq_true (Fil.nameB (s.extract fr s.size)) with hn | hn
        · have HOK := Lib.hid hn
          go_wp2_with (first
            | (go_at_call 11; refine (HNM.out _).mono ?_; intro e W h; obtain ⟨h1, h2⟩ := h; have h3 := h2.symm; subst h3; subst h1; rw [hn])
            | (at_builtin; refine wpList_append_own _ rfl _ _ 35 rfl w.heap.size 9 i0 (.string ⟨#[]⟩) 1 16 Tryd.underlying35 hi0 hz0 hz1 hzb rfl (by decide) _ _ _ rfl (HI.out.own.alloc _) ⟨wr.heap.size, 0, none⟩ 1 1 [.string (s.extract fr s.size)] rfl rfl ?c1 ?c2 ?c3 ?c4 ?c5 ?_))
          case c1 => exact cell_one_new _ _ _
          case c2 => intro u hu; simp at hu; subst hu; rfl
          case c3 => have := HI.out.few; unfold maxLen; omega
          case c4 => have := HI.out.few; omega
          case c5 => have := HI.out.below.size; simp; omega
          intro v' w4 hown4 hgrow _
          have HG := Lib.hid (And.intro hown4 hgrow)
          clear hown4 hgrow
          go_wp2
          go_roundg g
          case measure => omega
          case rel =>
            have hbl : Below w.heap.size w w4 := (HI.out.below.alloc HI.out.below.size _).grown HG.out.2 (by simp; exact Nat.le_succ_of_le HI.out.below.size) (fun k e => (HI.out.own.lt k e).1)
            refine ⟨done ++ [s.extract fr s.size], s.size + 1, s.size + 1, by simp, by simp, by omega, Nat.le_refl _, ⟨by simpa using HG.out.1, hbl, fun y hy => ?_, by have := HI.out.few; simp; omega, Nat.le_refl _, ?_, ?_⟩⟩
            · rw [List.mem_append, List.mem_singleton] at hy
              rcases hy with hy | rfl
              · exact HI.out.ok y hy
              · exact HOK.out
            · intro h9; omega
            · intro _
              rw [← HSEG.out]
              simp
        · have HN := Lib.hid (show rowN s = none by
            rw [HR.out, if_neg]
            intro ha
            rw [List.all_eq_true] at ha
            have := ha _ (seg_in HMEM.out)
            rw [hn] at this
            cases this)
          go_wp2_with (go_at_call 11; refine (HNM.out _).mono ?_; intro e W h; obtain ⟨h1, h2⟩ := h; have h3 := h2.symm; subst h3; subst h1; rw [hn])
          go_ret2
          refine ⟨HI.out.below, ?_⟩
          rw [HN.out]
          rfl
end Go.Proofs.YtmcafiihicanfaaDoor
