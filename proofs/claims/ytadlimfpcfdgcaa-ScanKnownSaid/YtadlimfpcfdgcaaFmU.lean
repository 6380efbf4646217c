/- files: the reference's Count, Size, Depth. -/
import Derived.Test.YtadlimfpcfdgcaaFmL
set_option linter.unusedVariables false
set_option linter.unusedSimpArgs false
namespace Go.Proofs.Ytadlimfpcfdgcaa
open Go Go.RowKit Go.BigFrame
open Fil (Es Nd Sp)

/-- A sum over the first entries. -/
def sumTo (f : Nd → Nat) : Es → Nat → Nat
  | .nil, _ => 0
  | .cons _ _ _ _ _, 0 => 0
  | .cons _ k d s nx, i + 1 => f ⟨k, d, s⟩ + sumTo f nx i
def maxTo (f : Nd → Nat) : Es → Nat → Nat
  | .nil, _ => 0
  | .cons _ _ _ _ _, 0 => 0
  | .cons _ k d s nx, i + 1 => max (f ⟨k, d, s⟩) (maxTo f nx i)
theorem sumTo_zero (f : Nd → Nat) (es : Es) : sumTo f es 0 = 0 := by cases es <;> rfl
theorem maxTo_zero (f : Nd → Nat) (es : Es) : maxTo f es 0 = 0 := by cases es <;> rfl
theorem sumTo_step (f : Nd → Nat) : ∀ (es : Es) (i : Nat), i < es.len → sumTo f es (i + 1) = sumTo f es i + f (kidE es i)
  | .nil, _, h => by simp [Es.len] at h
  | .cons _ k d s nx, 0, _ => by simp [sumTo, sumTo_zero, kidE]
  | .cons _ k d s nx, i + 1, h => by
    have := sumTo_step f nx i (by simp [Es.len] at h; omega)
    simp only [sumTo, kidE] at this ⊢
    omega
theorem maxTo_step (f : Nd → Nat) : ∀ (es : Es) (i : Nat), i < es.len → maxTo f es (i + 1) = max (maxTo f es i) (f (kidE es i))
  | .nil, _, h => by simp [Es.len] at h
  | .cons _ k d s nx, 0, _ => by simp [maxTo, maxTo_zero, kidE]
  | .cons _ k d s nx, i + 1, h => by
    have := maxTo_step f nx i (by simp [Es.len] at h; omega)
    simp only [maxTo, kidE] at this ⊢
    omega
theorem sumTo_le (f : Nd → Nat) : ∀ (es : Es) (i : Nat), sumTo f es i ≤ sumTo f es es.len
  | .nil, _ => Nat.le_refl _
  | .cons _ k d s nx, 0 => Nat.zero_le _
  | .cons _ k d s nx, i + 1 => by
    have := sumTo_le f nx i
    simp only [sumTo, Es.len]
    omega
theorem sumTo_count : ∀ es : Es, sumTo Nd.count es es.len = es.count
  | .nil => rfl
  | .cons _ k d s nx => by
    have := sumTo_count nx
    simp only [sumTo, Es.len, Es.count, Nd.count] at this ⊢
    omega
theorem sumTo_size : ∀ es : Es, sumTo Nd.size es es.len = es.size
  | .nil => rfl
  | .cons _ k d s nx => by
    have := sumTo_size nx
    simp only [sumTo, Es.len, Es.size, Nd.size] at this ⊢
    omega
theorem maxTo_depth : ∀ es : Es, maxTo (fun n => 1 + n.depth) es es.len = es.depth
  | .nil => rfl
  | .cons _ k d s nx => by
    have := maxTo_depth nx
    simp only [maxTo, Es.len, Es.depth, Nd.depth] at this ⊢
    omega
theorem kid_count : ∀ (es : Es) (i : Nat), i < es.len → (kidE es i).es.count < es.count ∧ (kidE es i).es.size ≤ es.size ∧ (kidE es i).d.size + (kidE es i).es.size ≤ es.size ∧ (kidE es i).es.depth < es.depth
  | .nil, _, h => by simp [Es.len] at h
  | .cons _ k d s nx, 0, _ => by simp [Es.count, Es.size, Es.depth, kidE]; omega
  | .cons _ k d s nx, i + 1, h => by
    have := kid_count nx i (by simp [Es.len] at h; omega)
    simp only [Es.count, Es.size, Es.depth, kidE] at this ⊢
    omega
set_option maxRecDepth 1000000 in
set_option maxRecDepth 100000 in
set_option maxHeartbeats 4000000 in
theorem refCount_any : ∀ (m : Nat) (nd : Nd), nd.es.count ≤ m → nd.es.count ≤ 1000000000 → ∀ (w : World) (B : Nat), B ≤ w.heap.size → ∀ v, NdV w B v nd → Calls Try.prog 45 #[v] w fun e W => e = .returned (.int .i64 (nd.count : Int)) ∧ Below w.heap.size w W := by
  intro m
  induction m using Nat.strongRecOn with
  | ind m ih =>
  intro nd hm hbd w B hB v hv
  obtain ⟨ev, rfl, hes, hd, hk⟩ := hv
  obtain ⟨A, c, rfl, hlc, hcm⟩ := hes.form
  have HIH := Lib.hid (And.intro ih hm)
  clear ih hm
  go_enter Try.func45, Try.ntmps45
  have hbw0 : Below w.heap.size w (w.alloc (ndCells nd.k nd.d (.slice A nd.es.len c))) := (Below.refl _ w).alloc (Nat.le_refl _) _
  have hg0 : (w.alloc (ndCells nd.k nd.d (.slice A nd.es.len c))).heap[w.heap.size]? = some (ndCells nd.k nd.d (.slice A nd.es.len c)) := heap_alloc_new _ _
  have hsz : (w.alloc (ndCells nd.k nd.d (.slice A nd.es.len c))).heap.size = w.heap.size + 1 := by simp
  unfold ndCells at hbw0 hg0 hsz
  have HES := Lib.hid hes
  clear hes
  skip
  go_wp2
  have HB := Lib.hid (And.intro hbw0 (And.intro hg0 hsz))
  clear hbw0 hg0 hsz 
  generalize World.alloc _ _ = W0 at *
  go_loopg [3, 4] nd.es.len (fun g u3 u4 wx => ∃ i : Nat, u3 = .int .i64 (1 + sumTo Nd.count nd.es i : Int) ∧ u4 = .int .i64 (i : Int) ∧ i + g = nd.es.len ∧ Below W0.heap.size W0 wx)
  case atStart => exact ⟨0, by simp [sumTo_zero], rfl, by omega, Below.refl _ _⟩
  case round =>
    obtain ⟨i, rfl, rfl, hig, hbw⟩ := hrel
    have hbl : Below w.heap.size w wr := HB.out.1.trans (hbw.mono (by have := HB.out.2.2; omega))
    have hbx : wr.heap[w.heap.size]? = some (ndCells nd.k nd.d (.slice A nd.es.len c)) := (hbw.block _ (by have := HB.out.2.2; omega)).trans HB.out.2.1
    obtain ⟨hn0, hn1, hn2, _⟩ := nd_box hbx
    clear hn0 hn1 hbx
    cases gk with
    | zero =>
      obtain rfl : i = nd.es.len := by omega
      have HE := Lib.hid (sumTo_count nd.es)
      go_wp2
      go_ret
      exact ⟨by rw [HE.out]; simp [Nd.count], hbl⟩
    | succ g =>
      have hil : i < nd.es.len := by omega
      obtain ⟨ab, ao, rfl, hlt, hcs⟩ := es_addr HES.out (by omega)
      obtain ⟨hk1, hk2, hk3, hk4, A2, c2, hk5, hk6⟩ := kid_at hcs hil hlt
      have hq1 : wr.cell? ⟨ab, ao + i * 4 + 1, none⟩ = _ := (hbl.cell (p := ⟨ab, ao + i * 4 + 1, none⟩) (by show ab < _; omega)).trans hk1
      have hq2 : wr.cell? ⟨ab, ao + i * 4 + 2, none⟩ = _ := (hbl.cell (p := ⟨ab, ao + i * 4 + 2, none⟩) (by show ab < _; omega)).trans hk2
      have hq3 : wr.cell? ⟨ab, ao + i * 4 + 3, none⟩ = _ := (hbl.cell (p := ⟨ab, ao + i * 4 + 3, none⟩) (by show ab < _; omega)).trans hk5
      have hkc := kid_count nd.es i hil
      have hst := sumTo_step Nd.count nd.es i hil
      have hle := sumTo_le Nd.count nd.es (i + 1)
      have hal := sumTo_count nd.es
      have hw1 : IntKind.i64.wrap ((1 : Int) + (sumTo Nd.count nd.es i : Int) + ((kidE nd.es i).count : Int)) = (1 : Int) + (sumTo Nd.count nd.es i : Int) + ((kidE nd.es i).count : Int) := IntWalk.i64_in _ (by omega)
      clear hle hal
      have HREC := Lib.hid (HIH.out.1 (kidE nd.es i).es.count (by have := HIH.out.2; omega) (kidE nd.es i) (Nat.le_refl _) (by omega) wr B (Nat.le_trans hB hbl.size) _ ⟨_, rfl, hk6.keep (hbl.mono hB), hk3, hk4⟩)
      have HST := Lib.hid hst
      have hw2 : IntKind.i64.wrap ((i : Int) + 1) = (i : Int) + 1 := IntWalk.i64_in _ (by unfold maxLen at hcm; omega)
      clear hkc hcs hk1 hk2 hk3 hk4 hk5 hk6 hst
      go_wp2_with (go_at_call 45; refine HREC.out.mono ?_; rintro e W2 ⟨rfl, hb2⟩)
      go_roundg g
      case measure => omega
      case rel => exact ⟨i + 1, by rw [HST.out]; simp []; try omega, by simp, by omega, hbw.trans (hb2.mono hbw.size)⟩
set_option maxRecDepth 1000000 in
set_option maxRecDepth 100000 in
set_option maxHeartbeats 4000000 in
theorem refDepth_any : ∀ (m : Nat) (nd : Nd), nd.es.count ≤ m → nd.depth ≤ 1000000000 → ∀ (w : World) (B : Nat), B ≤ w.heap.size → ∀ v, NdV w B v nd → Calls Try.prog 46 #[v] w fun e W => e = .returned (.int .i64 (nd.depth : Int)) ∧ Below w.heap.size w W := by
  intro m
  induction m using Nat.strongRecOn with
  | ind m ih =>
  intro nd hm hbd w B hB v hv
  obtain ⟨ev, rfl, hes, hd, hk⟩ := hv
  obtain ⟨A, c, rfl, hlc, hcm⟩ := hes.form
  have HIH := Lib.hid (And.intro ih hm)
  clear ih hm
  go_enter Try.func46, Try.ntmps46
  have hbw0 : Below w.heap.size w (w.alloc (ndCells nd.k nd.d (.slice A nd.es.len c))) := (Below.refl _ w).alloc (Nat.le_refl _) _
  have hg0 : (w.alloc (ndCells nd.k nd.d (.slice A nd.es.len c))).heap[w.heap.size]? = some (ndCells nd.k nd.d (.slice A nd.es.len c)) := heap_alloc_new _ _
  have hsz : (w.alloc (ndCells nd.k nd.d (.slice A nd.es.len c))).heap.size = w.heap.size + 1 := by simp
  unfold ndCells at hbw0 hg0 hsz
  have HES := Lib.hid hes
  clear hes
  skip
  go_wp2
  have HB := Lib.hid (And.intro hbw0 (And.intro hg0 hsz))
  clear hbw0 hg0 hsz 
  generalize World.alloc _ _ = W0 at *
  go_loopg [3, 4] nd.es.len (fun g u3 u4 wx => ∃ i : Nat, u3 = .int .i64 (maxTo (fun n => 1 + n.depth) nd.es i : Int) ∧ u4 = .int .i64 (i : Int) ∧ i + g = nd.es.len ∧ Below W0.heap.size W0 wx)
  case atStart => exact ⟨0, by simp [maxTo_zero], rfl, by omega, Below.refl _ _⟩
  case round =>
    obtain ⟨i, rfl, rfl, hig, hbw⟩ := hrel
    have hbl : Below w.heap.size w wr := HB.out.1.trans (hbw.mono (by have := HB.out.2.2; omega))
    have hbx : wr.heap[w.heap.size]? = some (ndCells nd.k nd.d (.slice A nd.es.len c)) := (hbw.block _ (by have := HB.out.2.2; omega)).trans HB.out.2.1
    obtain ⟨hn0, hn1, hn2, _⟩ := nd_box hbx
    clear hn0 hn1 hbx
    cases gk with
    | zero =>
      obtain rfl : i = nd.es.len := by omega
      have HE := Lib.hid (maxTo_depth nd.es)
      go_wp2
      go_ret
      exact ⟨by rw [HE.out]; simp [Nd.depth], hbl⟩
    | succ g =>
      have hil : i < nd.es.len := by omega
      obtain ⟨ab, ao, rfl, hlt, hcs⟩ := es_addr HES.out (by omega)
      obtain ⟨hk1, hk2, hk3, hk4, A2, c2, hk5, hk6⟩ := kid_at hcs hil hlt
      have hq1 : wr.cell? ⟨ab, ao + i * 4 + 1, none⟩ = _ := (hbl.cell (p := ⟨ab, ao + i * 4 + 1, none⟩) (by show ab < _; omega)).trans hk1
      have hq2 : wr.cell? ⟨ab, ao + i * 4 + 2, none⟩ = _ := (hbl.cell (p := ⟨ab, ao + i * 4 + 2, none⟩) (by show ab < _; omega)).trans hk2
      have hq3 : wr.cell? ⟨ab, ao + i * 4 + 3, none⟩ = _ := (hbl.cell (p := ⟨ab, ao + i * 4 + 3, none⟩) (by show ab < _; omega)).trans hk5
      have hkc := kid_count nd.es i hil
      have hst := maxTo_step (fun n => 1 + n.depth) nd.es i hil
      have hns : nd.depth = nd.es.depth := rfl
      have hks : (kidE nd.es i).depth = (kidE nd.es i).es.depth := rfl
      have hw1 : IntKind.i64.wrap ((1 : Int) + ((kidE nd.es i).depth : Int)) = (1 : Int) + ((kidE nd.es i).depth : Int) := IntWalk.i64_in _ (by omega)
      have hrb : (kidE nd.es i).depth ≤ 1000000000 := by omega
      clear hns hks
      have HREC := Lib.hid (HIH.out.1 (kidE nd.es i).es.count (by have := HIH.out.2; omega) (kidE nd.es i) (Nat.le_refl _) hrb wr B (Nat.le_trans hB hbl.size) _ ⟨_, rfl, hk6.keep (hbl.mono hB), hk3, hk4⟩)
      have HST := Lib.hid hst
      have hw2 : IntKind.i64.wrap ((i : Int) + 1) = (i : Int) + 1 := IntWalk.i64_in _ (by unfold maxLen at hcm; omega)
      clear hkc hcs hk1 hk2 hk3 hk4 hk5 hk6 hst
      go_wp2_with (go_at_call 46; refine HREC.out.mono ?_; rintro e W2 ⟨rfl, hb2⟩)
      all_goals
        go_roundg g
        case measure => omega
        case rel => exact ⟨i + 1, by congr 1; have h9 : maxTo (fun n => 1 + n.depth) nd.es (i + 1) = max (maxTo (fun n => 1 + n.depth) nd.es i) (1 + (kidE nd.es i).depth) := HST.out; omega, by simp, by omega, hbw.trans (hb2.mono hbw.size)⟩
end Go.Proofs.Ytadlimfpcfdgcaa

/- files: the reference's Name. -/
namespace Go.Proofs.Ytadlimfpcfdgcaa
open Go Go.RowKit Go.BigFrame
open Fil (Es Nd Sp badB)

theorem nameB_eq2 (s : ByteArray) : Fil.nameB s = (decide ((1 : Int) ≤ (s.size : Int)) && decide ((s.size : Int) ≤ 255) && !(s.toList == [46]) && !(s.toList == [46, 46]) && !s.data.toList.any badB) := by
  have e1 : decide (1 ≤ s.size) = decide ((1 : Int) ≤ (s.size : Int)) := by rw [decide_eq_decide]; omega
  have e2 : decide (s.size ≤ 255) = decide ((s.size : Int) ≤ 255) := by rw [decide_eq_decide]; omega
  unfold Fil.nameB
  rw [e1, e2, eq_toList, eq_toList]
  rw [show (⟨#[46]⟩ : ByteArray).toList = [46] by rw [Lib.toList_data], show (⟨#[46, 46]⟩ : ByteArray).toList = [46, 46] by rw [Lib.toList_data]]
theorem bad_val (x : UInt8) : badB x = (((x.toNat : Int) == 47) || ((x.toNat : Int) == 0)) := by
  unfold badB
  have h1 : (x == 47) = ((x.toNat : Int) == 47) := by
    by_cases h : x = 47
    · subst h; rfl
    · rw [beq_eq_false_iff_ne.2 h]; symm; refine beq_eq_false_iff_ne.2 fun e => h ?_
      exact UInt8.toNat_inj.1 (show x.toNat = 47 by omega)
  have h2 : (x == 0) = ((x.toNat : Int) == 0) := by
    by_cases h : x = 0
    · subst h; rfl
    · rw [beq_eq_false_iff_ne.2 h]; symm; refine beq_eq_false_iff_ne.2 fun e => h ?_
      exact UInt8.toNat_inj.1 (show x.toNat = 0 by omega)
  rw [h1, h2]
set_option maxRecDepth 1000000 in
set_option maxRecDepth 100000 in
set_option maxHeartbeats 4000000 in
theorem refName_any (s : ByteArray) (hs : s.size ≤ maxLen) (w : World) :
    Calls Try.prog 53 #[.string s] w fun e W => e = .returned (.bool (Fil.nameB s)) ∧ W = w := by
  go_enter Try.func53, Try.ntmps53
  go_wp2
  go_loopg [3] s.size (fun g u3 wx => ∃ i : Nat, u3 = .int .i64 (i : Int) ∧ i + g = s.size ∧ wx = w ∧ Hid (NoBad s i))
  case atStart => exact ⟨0, rfl, by omega, rfl, fun j b hj => by omega⟩
  case round =>
    obtain ⟨i, rfl, hig, rfl, HN⟩ := hrel
    cases gk with
    | zero =>
      obtain rfl : i = s.size := by omega
      have HE := Lib.hid (show Fil.nameB s = (decide ((1 : Int) ≤ (s.size : Int)) && decide ((s.size : Int) ≤ 255) && !(s.toList == [46]) && !(s.toList == [46, 46])) by rw [nameB_eq2, HN.out.all (Nat.le_refl _)]; simp)
      rcases Bool.eq_false_or_eq_true (decide ((1 : Int) ≤ (s.size : Int))) with h1 | h1
      rotate_left
      · have HQ := Lib.hid (show Fil.nameB s = false by rw [HE.out, h1]; rfl)
        go_wp2
        go_ret
        exact ⟨by rw [HQ.out]; rfl, rfl⟩
      rcases Bool.eq_false_or_eq_true (decide ((s.size : Int) ≤ 255)) with h2 | h2
      rotate_left
      · have HQ := Lib.hid (show Fil.nameB s = false by rw [HE.out, h1, h2]; rfl)
        go_wp2
        go_ret
        exact ⟨by rw [HQ.out]; rfl, rfl⟩
      rcases Bool.eq_false_or_eq_true (s.toList == [46]) with h3 | h3
      · have HQ := Lib.hid (show Fil.nameB s = false by rw [HE.out, h1, h2, h3]; rfl)
        go_wp2
        go_ret
        exact ⟨by rw [HQ.out]; rfl, rfl⟩
      rcases Bool.eq_false_or_eq_true (s.toList == [46, 46]) with h4 | h4
      · have HQ := Lib.hid (show Fil.nameB s = false by rw [HE.out, h1, h2, h3, h4]; rfl)
        go_wp2
        go_ret
        exact ⟨by rw [HQ.out]; rfl, rfl⟩
      · have HQ := Lib.hid (show Fil.nameB s = true by rw [HE.out, h1, h2, h3, h4]; rfl)
        go_wp2
        go_ret
        exact ⟨by rw [HQ.out]; rfl, rfl⟩
    | succ g =>
      have hil : i < s.size := by omega
      obtain ⟨x, hx⟩ : ∃ x : UInt8, s[i]'hil = x := ⟨_, rfl⟩
      have HX := Lib.hid (show s.data.toList[i]? = some x by rw [← hx]; exact Lib.data_getElem? s i hil)
      have hw1 : IntKind.i64.wrap ((i : Int) + 1) = (i : Int) + 1 := IntWalk.i64_in _ (by unfold maxLen at hs; omega)
      have HBV := Lib.hid (bad_val x)
      have HF := Lib.hid (show badB x = true → Fil.nameB s = false from fun hb => by rw [nameB_eq2, List.any_eq_true.2 ⟨x, List.mem_of_getElem? HX.out, hb⟩]; simp)
      rcases Bool.eq_false_or_eq_true ((x.toNat : Int) == 47) with h47 | h47
      · have HQ := Lib.hid (HF.out (by rw [HBV.out, h47]; rfl))
        go_wp2
        go_ret
        exact ⟨by rw [HQ.out]; rfl, rfl⟩
      rcases Bool.eq_false_or_eq_true ((x.toNat : Int) == 0) with h0 | h0
      · have HQ := Lib.hid (HF.out (by rw [HBV.out, h47, h0]; rfl))
        go_wp2
        go_ret
        exact ⟨by rw [HQ.out]; rfl, rfl⟩
      have HQ := Lib.hid (show badB x = false by rw [HBV.out, h47, h0]; rfl)
      go_wp2
      go_roundg g
      case measure => omega
      case rel =>
        refine ⟨i + 1, by simp, by omega, rfl, fun j b hj hb => ?_⟩
        rcases Nat.lt_or_ge j i with hji | hji
        · exact HN.out j b hji hb
        · obtain rfl : j = i := by omega
          rw [HX.out] at hb
          cases hb
          exact HQ.out
end Go.Proofs.Ytadlimfpcfdgcaa

/- files: the law's Weight. -/
namespace Go.Proofs.Ytadlimfpcfdgcaa
open Go Go.RowKit Go.BigFrame
open Fil (Es Nd Sp badB)

/-- How much entries have: nodes, bytes of names and data. -/
def weiE : Es → Nat
  | .nil => 0
  | .cons nm _ d s nx => nm.size + (1 + d.size + weiE s) + weiE nx
def weiN (nd : Nd) : Nat := 1 + nd.d.size + weiE nd.es
def nmE : Es → Nat → ByteArray
  | .nil, _ => ⟨#[]⟩
  | .cons nm _ _ _ _, 0 => nm
  | .cons _ _ _ _ nx, i + 1 => nmE nx i
def weiTo : Es → Nat → Nat
  | .nil, _ => 0
  | .cons _ _ _ _ _, 0 => 0
  | .cons nm k d s nx, i + 1 => nm.size + weiN ⟨k, d, s⟩ + weiTo nx i
theorem weiTo_zero (es : Es) : weiTo es 0 = 0 := by cases es <;> rfl
theorem weiTo_step : ∀ (es : Es) (i : Nat), i < es.len → weiTo es (i + 1) = weiTo es i + (nmE es i).size + weiN (kidE es i)
  | .nil, _, h => by simp [Es.len] at h
  | .cons nm k d s nx, 0, _ => by simp [weiTo, weiTo_zero, kidE, nmE]
  | .cons nm k d s nx, i + 1, h => by
    have := weiTo_step nx i (by simp [Es.len] at h; omega)
    simp only [weiTo, kidE, nmE] at this ⊢
    omega
theorem weiTo_all : ∀ es : Es, weiTo es es.len = weiE es
  | .nil => rfl
  | .cons nm k d s nx => by
    have := weiTo_all nx
    simp only [weiTo, Es.len, weiE, weiN] at this ⊢
    omega
theorem weiTo_le : ∀ (es : Es) (i : Nat), weiTo es i ≤ weiE es
  | .nil, _ => Nat.le_refl _
  | .cons _ k d s nx, 0 => Nat.zero_le _
  | .cons nm k d s nx, i + 1 => by
    have := weiTo_le nx i
    simp only [weiTo, weiE, weiN]
    omega
theorem name_at {w : World} {B : Nat} : ∀ {es : Es} {ab ao i : Nat}, CellsAt w B es ⟨ab, ao, none⟩ → i < es.len → w.cell? ⟨ab, ao + i * 4, none⟩ = some (.string (nmE es i)) ∧ (nmE es i).size ≤ maxLen
  | .nil, _, _, _, _, h => by simp [Es.len] at h
  | .cons nm k d s nx, ab, ao, 0, hc, _ => ⟨by simpa [nmE] using hc.1, hc.2.2.2.1⟩
  | .cons nm k d s nx, ab, ao, i + 1, hc, h => by
    obtain ⟨h0, h1, h2, h3, h4, h5, h6, h11⟩ := hc
    rw [add_none] at h11
    have ih := name_at (i := i) h11 (by simp [Es.len] at h; omega)
    rw [show ao + 4 + i * 4 = ao + (i + 1) * 4 by omega] at ih
    exact ih
/-- What Weight tells. -/
def WeiPost (w : World) (nd : Nd) (top : Nat) (e : Ending) (W : World) : Prop :=
  Below w.heap.size w W ∧ ∃ r : Nat, e = .returned (.int .i64 (r : Int)) ∧ r ≤ 2 * top + 2 ∧ (r ≤ top → r = weiN nd) ∧ (top < r → top < weiN nd)
set_option maxRecDepth 1000000 in
set_option maxRecDepth 100000 in
set_option maxHeartbeats 4000000 in
theorem weight_any : ∀ (m : Nat) (nd : Nd), nd.es.count ≤ m → ∀ top : Nat, top ≤ 1000000 → ∀ (w : World) (B : Nat), B ≤ w.heap.size → ∀ v, NdV w B v nd → Calls Try.prog 27 #[v, .int .i64 (top : Int)] w (WeiPost w nd top) := by
  intro m
  induction m using Nat.strongRecOn with
  | ind m ih =>
  intro nd hm top htop w B hB v hv
  obtain ⟨ev, rfl, hes, hd, hk⟩ := hv
  obtain ⟨A, c, rfl, hlc, hcm⟩ := hes.form
  have HIH := Lib.hid (And.intro ih hm)
  clear ih hm
  go_enter Try.func27, Try.ntmps27
  have hbw0 : Below w.heap.size w (w.alloc (ndCells nd.k nd.d (.slice A nd.es.len c))) := (Below.refl _ w).alloc (Nat.le_refl _) _
  have hg0 : (w.alloc (ndCells nd.k nd.d (.slice A nd.es.len c))).heap[w.heap.size]? = some (ndCells nd.k nd.d (.slice A nd.es.len c)) := heap_alloc_new _ _
  have hsz : (w.alloc (ndCells nd.k nd.d (.slice A nd.es.len c))).heap.size = w.heap.size + 1 := by simp
  unfold ndCells at hbw0 hg0 hsz
  have HES := Lib.hid hes
  have HB := Lib.hid (And.intro hbw0 (And.intro hg0 hsz))
  clear hes hbw0 hg0 hsz
  have ht1 : IntKind.i64.wrap ((top : Int) + 1) = (top : Int) + 1 := IntWalk.i64_in _ (by omega)
  rcases Bool.eq_false_or_eq_true (decide (top < nd.d.size)) with hbig | hbig
  · have HBG := Lib.hid (of_decide_eq_true hbig)
    go_wp2
    go_ret
    refine ⟨HB.out.1, top + 1, by simp, by omega, fun h => by omega, fun _ => ?_⟩
    have := HBG.out
    unfold weiN
    omega
  have hds : (nd.d.size : Int) ≤ (top : Int) := by have := of_decide_eq_false hbig; omega
  have hd1 : IntKind.i64.wrap ((1 : Int) + (nd.d.size : Int)) = (1 : Int) + (nd.d.size : Int) := IntWalk.i64_in _ (by omega)
  go_wp2
  clear hbig hd1
  generalize hW0 : World.alloc _ _ = W0 at *
  clear hW0
  go_loopg [5, 6] nd.es.len (fun g u5 u6 wx => ∃ (i r : Nat), u5 = .int .i64 (r : Int) ∧ u6 = .int .i64 (i : Int) ∧ i + g = nd.es.len ∧ Below W0.heap.size W0 wx ∧ r ≤ 2 * top + 2 ∧ Hid ((r ≤ top → r = 1 + nd.d.size + weiTo nd.es i) ∧ (top < r → top < 1 + nd.d.size + weiTo nd.es i)))
  case atStart => exact ⟨0, 1 + nd.d.size, by simp, rfl, by omega, Below.refl _ _, by omega, fun _ => by rw [weiTo_zero]; omega, fun _ => by rw [weiTo_zero]; omega⟩
  case round =>
    obtain ⟨i, r, rfl, rfl, hig, hbw, hr2, HR⟩ := hrel
    have hbl : Below w.heap.size w wr := HB.out.1.trans (hbw.mono (by have := HB.out.2.2; omega))
    have hbx : wr.heap[w.heap.size]? = some (ndCells nd.k nd.d (.slice A nd.es.len c)) := (hbw.block _ (by have := HB.out.2.2; omega)).trans HB.out.2.1
    obtain ⟨hn0, hn1, hn2, _⟩ := nd_box hbx
    clear hn0 hn1 hbx
    rcases Bool.eq_false_or_eq_true (decide (r ≤ top)) with hrt | hrt
    rotate_left
    · have HRT := Lib.hid (of_decide_eq_false hrt)
      go_wp2
      all_goals
        go_ret
        refine ⟨hbl, r, rfl, hr2, fun h => by have := HRT.out; omega, fun h => ?_⟩
        have := HR.out.2 h
        have := weiTo_le nd.es i
        unfold weiN
        omega
    have HRT := Lib.hid (of_decide_eq_true hrt)
    cases gk with
    | zero =>
      obtain rfl : i = nd.es.len := by omega
      have HAL := Lib.hid (weiTo_all nd.es)
      go_wp2
      go_ret
      refine ⟨hbl, r, rfl, hr2, fun h => ?_, fun h => by have := HRT.out; omega⟩
      have := HR.out.1 h
      have := HAL.out
      unfold weiN
      omega
    | succ g =>
      have hil : i < nd.es.len := by omega
      obtain ⟨ab, ao, rfl, hlt, hcs⟩ := es_addr HES.out (by omega)
      obtain ⟨hk1, hk2, hk3, hk4, A2, c2, hk5, hk6⟩ := kid_at hcs hil hlt
      obtain ⟨hnm, hnz⟩ := name_at hcs hil
      have hq0 : wr.cell? ⟨ab, ao + i * 4, none⟩ = _ := (hbl.cell (p := ⟨ab, ao + i * 4, none⟩) (by show ab < _; omega)).trans hnm
      have hq1 : wr.cell? ⟨ab, ao + i * 4 + 1, none⟩ = _ := (hbl.cell (p := ⟨ab, ao + i * 4 + 1, none⟩) (by show ab < _; omega)).trans hk1
      have hq2 : wr.cell? ⟨ab, ao + i * 4 + 2, none⟩ = _ := (hbl.cell (p := ⟨ab, ao + i * 4 + 2, none⟩) (by show ab < _; omega)).trans hk2
      have hq3 : wr.cell? ⟨ab, ao + i * 4 + 3, none⟩ = _ := (hbl.cell (p := ⟨ab, ao + i * 4 + 3, none⟩) (by show ab < _; omega)).trans hk5
      have HST := Lib.hid (weiTo_step nd.es i hil)
      have hkc := kid_count nd.es i hil
      have HREC := Lib.hid (fun (t : Nat) (ht : t ≤ 1000000) (z : Int) (hz : z = (t : Int)) => (by subst hz; exact HIH.out.1 (kidE nd.es i).es.count (by have := HIH.out.2; omega) (kidE nd.es i) (Nat.le_refl _) t ht wr B (Nat.le_trans hB hbl.size) _ ⟨_, rfl, hk6.keep (hbl.mono hB), hk3, hk4⟩ : Calls Try.prog 27 #[.agg #[.int .u8 ((kidE nd.es i).k : Int), .string (kidE nd.es i).d, .slice A2 (kidE nd.es i).es.len c2], .int .i64 z] wr (WeiPost wr (kidE nd.es i) t)))
      have HLE := Lib.hid (weiTo_le nd.es (i + 1))
      have hw2 : IntKind.i64.wrap ((i : Int) + 1) = (i : Int) + 1 := IntWalk.i64_in _ (by unfold maxLen at hcm; omega)
      clear hkc hcs hk1 hk2 hk3 hk4 hk5 hk6 hnm hnz
      rcases Bool.eq_false_or_eq_true (decide (top < (nmE nd.es i).size)) with hnb | hnb
      · have HNB := Lib.hid (of_decide_eq_true hnb)
        go_wp2
        go_ret
        refine ⟨hbl, top + 1, by simp, by omega, fun h => by omega, fun _ => ?_⟩
        have := HNB.out
        have := HST.out
        have := HLE.out
        unfold weiN
        omega
      have HNB := Lib.hid (of_decide_eq_false hnb)
      have hw3 : IntKind.i64.wrap ((r : Int) + ((nmE nd.es i).size : Int)) = (r : Int) + ((nmE nd.es i).size : Int) := IntWalk.i64_in _ (by have := HNB.out; omega)
      rcases Bool.eq_false_or_eq_true (decide ((r : Int) + ((nmE nd.es i).size : Int) ≤ (top : Int))) with hrn | hrn
      rotate_left
      · have HRN := Lib.hid (of_decide_eq_false hrn)
        have hrn' : decide (r + (nmE nd.es i).size ≤ top) = false := decide_eq_false (by have := HRN.out; omega)
        go_wp2
        go_roundg g
        case measure => omega
        case rel =>
          have h1 := HRN.out
          have h2 := HNB.out
          have h3 := HST.out
          have h4 := HRT.out
          have h5 := HR.out.1 (by omega)
          exact ⟨i + 1, r + (nmE nd.es i).size, by simp, by simp, by omega, hbw, by omega, fun h => by omega, fun h => by omega⟩
      · have HRN := Lib.hid (of_decide_eq_true hrn)
        have hrn' : decide (r + (nmE nd.es i).size ≤ top) = true := decide_eq_true (by have := HRN.out; omega)
        obtain ⟨t, ht⟩ : ∃ t : Nat, (top : Int) - ((r : Int) + ((nmE nd.es i).size : Int)) = (t : Int) := ⟨top - (r + (nmE nd.es i).size), by have := HRN.out; omega⟩
        have hw4 : IntKind.i64.wrap ((top : Int) - ((r : Int) + ((nmE nd.es i).size : Int))) = (t : Int) := by rw [ht]; exact IntWalk.i64_in _ (by omega)
        have HT := Lib.hid ht
        have hw5 : ∀ q : Nat, q ≤ 2 * t + 2 → IntKind.i64.wrap ((r : Int) + ((nmE nd.es i).size : Int) + (q : Int)) = (r : Int) + ((nmE nd.es i).size : Int) + (q : Int) := fun q hq => IntWalk.i64_in _ (by have := HRN.out; omega)
        have HW5 := Lib.hid hw5
        clear hw5
        clear ht
        go_wp2_with (go_at_call 27; refine (HREC.out t (by have := HT.out; omega) (t : Int) rfl).mono ?_; rintro e W2 ⟨hb2, q, rfl, hq1', hq2', hq3'⟩; have hw6 := HW5.out q hq1')
        go_roundg g
        case measure => omega
        case rel =>
          have h1 := HRN.out
          have h2 := HNB.out
          have h3 := HST.out
          have h4 := HRT.out
          have h5 := HR.out.1 (by omega)
          have h6 := HT.out
          exact ⟨i + 1, r + (nmE nd.es i).size + q, by simp, by simp, by omega, hbw.trans (hb2.mono hbw.size), by omega, fun h => by have := hq2' (by omega); omega, fun h => by have := hq3' (by omega); omega⟩
end Go.Proofs.Ytadlimfpcfdgcaa
