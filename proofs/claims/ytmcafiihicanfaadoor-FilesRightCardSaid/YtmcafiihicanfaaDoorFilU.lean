/- files: the reference's Count, Size, Depth. -/
import Derived.Test.YtmcafiihicanfaaDoorFilT
set_option linter.unusedVariables false
set_option linter.unusedSimpArgs false
namespace Go.Proofs.YtmcafiihicanfaaDoor
open Go Go.RowKit Go.BigFrame
open Fil (Es Nd Sp)

/-- A sum over the first entries. -/
def sumTo (f : Nd → Nat) : Es → Nat → Nat
  | .nil, _ => 0
  | .cons _ _ _ _ _, 0 => 0
  | .cons _ k d s nx, i + 1 => f ⟨k, d, s⟩ + sumTo f nx i
def maxTo (f : Nd → Nat) : Es → Nat → Nat
  | .nil, _ => 0
  | .cons _ _ _ _ _, 0 => 0
  | .cons _ k d s nx, i + 1 => max (f ⟨k, d, s⟩) (maxTo f nx i)
theorem sumTo_zero (f : Nd → Nat) (es : Es) : sumTo f es 0 = 0 := by cases es <;> rfl
theorem maxTo_zero (f : Nd → Nat) (es : Es) : maxTo f es 0 = 0 := by cases es <;> rfl
theorem sumTo_step (f : Nd → Nat) : ∀ (es : Es) (i : Nat), i < es.len → sumTo f es (i + 1) = sumTo f es i + f (kidE es i)
  | .nil, _, h => by simp [Es.len] at h
  | .cons _ k d s nx, 0, _ => by simp [sumTo, sumTo_zero, kidE]
  | .cons _ k d s nx, i + 1, h => by
    have := sumTo_step f nx i (by simp [Es.len] at h; omega)
    simp only [sumTo, kidE] at this ⊢
    omega
theorem maxTo_step (f : Nd → Nat) : ∀ (es : Es) (i : Nat), i < es.len → maxTo f es (i + 1) = max (maxTo f es i) (f (kidE es i))
  | .nil, _, h => by simp [Es.len] at h
  | .cons _ k d s nx, 0, _ => by simp [maxTo, maxTo_zero, kidE]
  | .cons _ k d s nx, i + 1, h => by
    have := maxTo_step f nx i (by simp [Es.len] at h; omega)
    simp only [maxTo, kidE] at this ⊢
    omega
theorem sumTo_le (f : Nd → Nat) : ∀ (es : Es) (i : Nat), sumTo f es i ≤ sumTo f es es.len
  | .nil, _ => Nat.le_refl _
  | .cons _ k d s nx, 0 => Nat.zero_le _
  | .cons _ k d s nx, i + 1 => by
    have := sumTo_le f nx i
    simp only [sumTo, Es.len]
    omega
theorem sumTo_count : ∀ es : Es, sumTo Nd.count es es.len = es.count
  | .nil => rfl
  | .cons _ k d s nx => by
    have := sumTo_count nx
    simp only [sumTo, Es.len, Es.count, Nd.count] at this ⊢
    omega
theorem sumTo_size : ∀ es : Es, sumTo Nd.size es es.len = es.size
  | .nil => rfl
  | .cons _ k d s nx => by
    have := sumTo_size nx
    simp only [sumTo, Es.len, Es.size, Nd.size] at this ⊢
    omega
theorem maxTo_depth : ∀ es : Es, maxTo (fun n => 1 + n.depth) es es.len = es.depth
  | .nil => rfl
  | .cons _ k d s nx => by
    have := maxTo_depth nx
    simp only [maxTo, Es.len, Es.depth, Nd.depth] at this ⊢
    omega
theorem kid_count : ∀ (es : Es) (i : Nat), i < es.len → (kidE es i).es.count < es.count ∧ (kidE es i).es.size ≤ es.size ∧ (kidE es i).d.size + (kidE es i).es.size ≤ es.size ∧ (kidE es i).es.depth < es.depth
  | .nil, _, h => by simp [Es.len] at h
  | .cons _ k d s nx, 0, _ => by simp [Es.count, Es.size, Es.depth, kidE]; omega
  | .cons _ k d s nx, i + 1, h => by
    have := kid_count nx i (by simp [Es.len] at h; omega)
    simp only [Es.count, Es.size, Es.depth, kidE] at this ⊢
    omega
set_option maxRecDepth 1000000 in
set_option maxRecDepth 100000 in
set_option maxHeartbeats 4000000 in
theorem refCount_any : ∀ (m : Nat) (nd : Nd), nd.es.count ≤ m → nd.es.count ≤ 1000000000 → ∀ (w : World) (B : Nat), B ≤ w.heap.size → ∀ v, NdV w B v nd → Calls Tryd.prog 17 #[v] w fun e W => e = .returned (.int .i64 (nd.count : Int)) ∧ Below w.heap.size w W := by
  intro m
  induction m using Nat.strongRecOn with
  | ind m ih =>
  intro nd hm hbd w B hB v hv
  obtain ⟨ev, rfl, hes, hd, hk⟩ := hv
  obtain ⟨A, c, rfl, hlc, hcm⟩ := hes.form
  have HIH := Lib.hid (And.intro ih hm)
  clear ih hm
  go_enter Tryd.func17, Tryd.ntmps17
  have hbw0 : Below w.heap.size w (w.alloc (ndCells nd.k nd.d (.slice A nd.es.len c))) := (Below.refl _ w).alloc (Nat.le_refl _) _
  have hg0 : (w.alloc (ndCells nd.k nd.d (.slice A nd.es.len c))).heap[w.heap.size]? = some (ndCells nd.k nd.d (.slice A nd.es.len c)) := heap_alloc_new _ _
  have hsz : (w.alloc (ndCells nd.k nd.d (.slice A nd.es.len c))).heap.size = w.heap.size + 1 := by simp
  unfold ndCells at hbw0 hg0 hsz
  have HES := Lib.hid hes
  clear hes
  skip
  go_wp2
  have HB := Lib.hid (And.intro hbw0 (And.intro hg0 hsz))
  clear hbw0 hg0 hsz 
  generalize World.alloc _ _ = W0 at *
  go_loopg [3, 4] nd.es.len (fun g u3 u4 wx => ∃ i : Nat, u3 = .int .i64 (1 + sumTo Nd.count nd.es i : Int) ∧ u4 = .int .i64 (i : Int) ∧ i + g = nd.es.len ∧ Below W0.heap.size W0 wx)
  case atStart => exact ⟨0, by simp [sumTo_zero], rfl, by omega, Below.refl _ _⟩
  case round =>
    obtain ⟨i, rfl, rfl, hig, hbw⟩ := hrel
    have hbl : Below w.heap.size w wr := HB.out.1.trans (hbw.mono (by have := HB.out.2.2; omega))
    have hbx : wr.heap[w.heap.size]? = some (ndCells nd.k nd.d (.slice A nd.es.len c)) := (hbw.block _ (by have := HB.out.2.2; omega)).trans HB.out.2.1
    obtain ⟨hn0, hn1, hn2, _⟩ := nd_box hbx
    clear hn0 hn1 hbx
    cases gk with
    | zero =>
      obtain rfl : i = nd.es.len := by omega
      have HE := Lib.hid (sumTo_count nd.es)
      go_wp2
      go_ret
      exact ⟨by rw [HE.out]; simp [Nd.count], hbl⟩
    | succ g =>
      have hil : i < nd.es.len := by omega
      obtain ⟨ab, ao, rfl, hlt, hcs⟩ := es_addr HES.out (by omega)
      obtain ⟨hk1, hk2, hk3, hk4, A2, c2, hk5, hk6⟩ := kid_at hcs hil hlt
      have hq1 : wr.cell? ⟨ab, ao + i * 4 + 1, none⟩ = _ := (hbl.cell (p := ⟨ab, ao + i * 4 + 1, none⟩) (by show ab < _; omega)).trans hk1
      have hq2 : wr.cell? ⟨ab, ao + i * 4 + 2, none⟩ = _ := (hbl.cell (p := ⟨ab, ao + i * 4 + 2, none⟩) (by show ab < _; omega)).trans hk2
      have hq3 : wr.cell? ⟨ab, ao + i * 4 + 3, none⟩ = _ := (hbl.cell (p := ⟨ab, ao + i * 4 + 3, none⟩) (by show ab < _; omega)).trans hk5
      have hkc := kid_count nd.es i hil
      have hst := sumTo_step Nd.count nd.es i hil
      have hle := sumTo_le Nd.count nd.es (i + 1)
      have hal := sumTo_count nd.es
      have hw1 : IntKind.i64.wrap ((1 : Int) + (sumTo Nd.count nd.es i : Int) + ((kidE nd.es i).count : Int)) = (1 : Int) + (sumTo Nd.count nd.es i : Int) + ((kidE nd.es i).count : Int) := IntWalk.i64_in _ (by omega)
      clear hle hal
      have HREC := Lib.hid (HIH.out.1 (kidE nd.es i).es.count (by have := HIH.out.2; omega) (kidE nd.es i) (Nat.le_refl _) (by omega) wr B (Nat.le_trans hB hbl.size) _ ⟨_, rfl, hk6.keep (hbl.mono hB), hk3, hk4⟩)
      have HST := Lib.hid hst
      have hw2 : IntKind.i64.wrap ((i : Int) + 1) = (i : Int) + 1 := IntWalk.i64_in _ (by unfold maxLen at hcm; omega)
      clear hkc hcs hk1 hk2 hk3 hk4 hk5 hk6 hst
      go_wp2_with (go_at_call 17; refine HREC.out.mono ?_; rintro e W2 ⟨rfl, hb2⟩)
      go_roundg g
      case measure => omega
      case rel => exact ⟨i + 1, by rw [HST.out]; simp []; try omega, by simp, by omega, hbw.trans (hb2.mono hbw.size)⟩
set_option maxRecDepth 1000000 in
set_option maxRecDepth 100000 in
set_option maxHeartbeats 4000000 in
theorem refSize_any : ∀ (m : Nat) (nd : Nd), nd.es.count ≤ m → nd.size ≤ 1000000000 → ∀ (w : World) (B : Nat), B ≤ w.heap.size → ∀ v, NdV w B v nd → Calls Tryd.prog 21 #[v] w fun e W => e = .returned (.int .i64 (nd.size : Int)) ∧ Below w.heap.size w W := by
  intro m
  induction m using Nat.strongRecOn with
  | ind m ih =>
  intro nd hm hbd w B hB v hv
  obtain ⟨ev, rfl, hes, hd, hk⟩ := hv
  obtain ⟨A, c, rfl, hlc, hcm⟩ := hes.form
  have HIH := Lib.hid (And.intro ih hm)
  clear ih hm
  go_enter Tryd.func21, Tryd.ntmps21
  have hbw0 : Below w.heap.size w (w.alloc (ndCells nd.k nd.d (.slice A nd.es.len c))) := (Below.refl _ w).alloc (Nat.le_refl _) _
  have hg0 : (w.alloc (ndCells nd.k nd.d (.slice A nd.es.len c))).heap[w.heap.size]? = some (ndCells nd.k nd.d (.slice A nd.es.len c)) := heap_alloc_new _ _
  have hsz : (w.alloc (ndCells nd.k nd.d (.slice A nd.es.len c))).heap.size = w.heap.size + 1 := by simp
  unfold ndCells at hbw0 hg0 hsz
  have HES := Lib.hid hes
  clear hes
  skip
  go_wp2
  have HB := Lib.hid (And.intro hbw0 (And.intro hg0 hsz))
  clear hbw0 hg0 hsz 
  generalize World.alloc _ _ = W0 at *
  go_loopg [3, 4] nd.es.len (fun g u3 u4 wx => ∃ i : Nat, u3 = .int .i64 (nd.d.size + sumTo Nd.size nd.es i : Int) ∧ u4 = .int .i64 (i : Int) ∧ i + g = nd.es.len ∧ Below W0.heap.size W0 wx)
  case atStart => exact ⟨0, by simp [sumTo_zero], rfl, by omega, Below.refl _ _⟩
  case round =>
    obtain ⟨i, rfl, rfl, hig, hbw⟩ := hrel
    have hbl : Below w.heap.size w wr := HB.out.1.trans (hbw.mono (by have := HB.out.2.2; omega))
    have hbx : wr.heap[w.heap.size]? = some (ndCells nd.k nd.d (.slice A nd.es.len c)) := (hbw.block _ (by have := HB.out.2.2; omega)).trans HB.out.2.1
    obtain ⟨hn0, hn1, hn2, _⟩ := nd_box hbx
    clear hn0 hn1 hbx
    cases gk with
    | zero =>
      obtain rfl : i = nd.es.len := by omega
      have HE := Lib.hid (sumTo_size nd.es)
      go_wp2
      go_ret
      exact ⟨by rw [HE.out]; simp [Nd.size], hbl⟩
    | succ g =>
      have hil : i < nd.es.len := by omega
      obtain ⟨ab, ao, rfl, hlt, hcs⟩ := es_addr HES.out (by omega)
      obtain ⟨hk1, hk2, hk3, hk4, A2, c2, hk5, hk6⟩ := kid_at hcs hil hlt
      have hq1 : wr.cell? ⟨ab, ao + i * 4 + 1, none⟩ = _ := (hbl.cell (p := ⟨ab, ao + i * 4 + 1, none⟩) (by show ab < _; omega)).trans hk1
      have hq2 : wr.cell? ⟨ab, ao + i * 4 + 2, none⟩ = _ := (hbl.cell (p := ⟨ab, ao + i * 4 + 2, none⟩) (by show ab < _; omega)).trans hk2
      have hq3 : wr.cell? ⟨ab, ao + i * 4 + 3, none⟩ = _ := (hbl.cell (p := ⟨ab, ao + i * 4 + 3, none⟩) (by show ab < _; omega)).trans hk5
      have hkc := kid_count nd.es i hil
      have hst := sumTo_step Nd.size nd.es i hil
      have hle := sumTo_le Nd.size nd.es (i + 1)
      have hal := sumTo_size nd.es
      have hns : nd.size = nd.d.size + nd.es.size := rfl
      have hks : (kidE nd.es i).size = (kidE nd.es i).d.size + (kidE nd.es i).es.size := rfl
      have hw1 : IntKind.i64.wrap ((nd.d.size : Int) + (sumTo Nd.size nd.es i : Int) + ((kidE nd.es i).size : Int)) = (nd.d.size : Int) + (sumTo Nd.size nd.es i : Int) + ((kidE nd.es i).size : Int) := IntWalk.i64_in _ (by omega)
      have hrb : (kidE nd.es i).size ≤ 1000000000 := by omega
      clear hle hal hns hks
      have HREC := Lib.hid (HIH.out.1 (kidE nd.es i).es.count (by have := HIH.out.2; omega) (kidE nd.es i) (Nat.le_refl _) hrb wr B (Nat.le_trans hB hbl.size) _ ⟨_, rfl, hk6.keep (hbl.mono hB), hk3, hk4⟩)
      have HST := Lib.hid hst
      have hw2 : IntKind.i64.wrap ((i : Int) + 1) = (i : Int) + 1 := IntWalk.i64_in _ (by unfold maxLen at hcm; omega)
      clear hkc hcs hk1 hk2 hk3 hk4 hk5 hk6 hst
      go_wp2_with (go_at_call 21; refine HREC.out.mono ?_; rintro e W2 ⟨rfl, hb2⟩)
      go_roundg g
      case measure => omega
      case rel => exact ⟨i + 1, by rw [HST.out]; simp []; try omega, by simp, by omega, hbw.trans (hb2.mono hbw.size)⟩
set_option maxRecDepth 1000000 in
set_option maxRecDepth 100000 in
set_option maxHeartbeats 4000000 in
theorem refDepth_any : ∀ (m : Nat) (nd : Nd), nd.es.count ≤ m → nd.depth ≤ 1000000000 → ∀ (w : World) (B : Nat), B ≤ w.heap.size → ∀ v, NdV w B v nd → Calls Tryd.prog 19 #[v] w fun e W => e = .returned (.int .i64 (nd.depth : Int)) ∧ Below w.heap.size w W := by
  intro m
  induction m using Nat.strongRecOn with
  | ind m ih =>
  intro nd hm hbd w B hB v hv
  obtain ⟨ev, rfl, hes, hd, hk⟩ := hv
  obtain ⟨A, c, rfl, hlc, hcm⟩ := hes.form
  have HIH := Lib.hid (And.intro ih hm)
  clear ih hm
  go_enter Tryd.func19, Tryd.ntmps19
  have hbw0 : Below w.heap.size w (w.alloc (ndCells nd.k nd.d (.slice A nd.es.len c))) := (Below.refl _ w).alloc (Nat.le_refl _) _
  have hg0 : (w.alloc (ndCells nd.k nd.d (.slice A nd.es.len c))).heap[w.heap.size]? = some (ndCells nd.k nd.d (.slice A nd.es.len c)) := heap_alloc_new _ _
  have hsz : (w.alloc (ndCells nd.k nd.d (.slice A nd.es.len c))).heap.size = w.heap.size + 1 := by simp
  unfold ndCells at hbw0 hg0 hsz
  have HES := Lib.hid hes
  clear hes
  skip
  go_wp2
  have HB := Lib.hid (And.intro hbw0 (And.intro hg0 hsz))
  clear hbw0 hg0 hsz 
  generalize World.alloc _ _ = W0 at *
  go_loopg [3, 4] nd.es.len (fun g u3 u4 wx => ∃ i : Nat, u3 = .int .i64 (maxTo (fun n => 1 + n.depth) nd.es i : Int) ∧ u4 = .int .i64 (i : Int) ∧ i + g = nd.es.len ∧ Below W0.heap.size W0 wx)
  case atStart => exact ⟨0, by simp [maxTo_zero], rfl, by omega, Below.refl _ _⟩
  case round =>
    obtain ⟨i, rfl, rfl, hig, hbw⟩ := hrel
    have hbl : Below w.heap.size w wr := HB.out.1.trans (hbw.mono (by have := HB.out.2.2; omega))
    have hbx : wr.heap[w.heap.size]? = some (ndCells nd.k nd.d (.slice A nd.es.len c)) := (hbw.block _ (by have := HB.out.2.2; omega)).trans HB.out.2.1
    obtain ⟨hn0, hn1, hn2, _⟩ := nd_box hbx
    clear hn0 hn1 hbx
    cases gk with
    | zero =>
      obtain rfl : i = nd.es.len := by omega
      have HE := Lib.hid (maxTo_depth nd.es)
      go_wp2
      go_ret
      exact ⟨by rw [HE.out]; simp [Nd.depth], hbl⟩
    | succ g =>
      have hil : i < nd.es.len := by omega
      obtain ⟨ab, ao, rfl, hlt, hcs⟩ := es_addr HES.out (by omega)
      obtain ⟨hk1, hk2, hk3, hk4, A2, c2, hk5, hk6⟩ := kid_at hcs hil hlt
      have hq1 : wr.cell? ⟨ab, ao + i * 4 + 1, none⟩ = _ := (hbl.cell (p := ⟨ab, ao + i * 4 + 1, none⟩) (by show ab < _; omega)).trans hk1
      have hq2 : wr.cell? ⟨ab, ao + i * 4 + 2, none⟩ = _ := (hbl.cell (p := ⟨ab, ao + i * 4 + 2, none⟩) (by show ab < _; omega)).trans hk2
      have hq3 : wr.cell? ⟨ab, ao + i * 4 + 3, none⟩ = _ := (hbl.cell (p := ⟨ab, ao + i * 4 + 3, none⟩) (by show ab < _; omega)).trans hk5
      have hkc := kid_count nd.es i hil
      have hst := maxTo_step (fun n => 1 + n.depth) nd.es i hil
      have hns : nd.depth = nd.es.depth := rfl
      have hks : (kidE nd.es i).depth = (kidE nd.es i).es.depth := rfl
      have hw1 : IntKind.i64.wrap ((1 : Int) + ((kidE nd.es i).depth : Int)) = (1 : Int) + ((kidE nd.es i).depth : Int) := IntWalk.i64_in _ (by omega)
      have hrb : (kidE nd.es i).depth ≤ 1000000000 := by omega
      clear hns hks
      have HREC := Lib.hid (HIH.out.1 (kidE nd.es i).es.count (by have := HIH.out.2; omega) (kidE nd.es i) (Nat.le_refl _) hrb wr B (Nat.le_trans hB hbl.size) _ ⟨_, rfl, hk6.keep (hbl.mono hB), hk3, hk4⟩)
      have HST := Lib.hid hst
      have hw2 : IntKind.i64.wrap ((i : Int) + 1) = (i : Int) + 1 := IntWalk.i64_in _ (by unfold maxLen at hcm; omega)
      clear hkc hcs hk1 hk2 hk3 hk4 hk5 hk6 hst
      go_wp2_with (go_at_call 19; refine HREC.out.mono ?_; rintro e W2 ⟨rfl, hb2⟩)
      all_goals
        go_roundg g
        case measure => omega
        case rel => exact ⟨i + 1, by congr 1; have h9 : maxTo (fun n => 1 + n.depth) nd.es (i + 1) = max (maxTo (fun n => 1 + n.depth) nd.es i) (1 + (kidE nd.es i).depth) := HST.out; omega, by simp, by omega, hbw.trans (hb2.mono hbw.size)⟩
end Go.Proofs.YtmcafiihicanfaaDoor
