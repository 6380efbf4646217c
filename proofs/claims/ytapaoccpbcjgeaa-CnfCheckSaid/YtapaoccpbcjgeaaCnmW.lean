/- cnf: a literal's place. -/
import Derived.Test.YtapaoccpbcjgeaaCnmA
import Derived.Test.YtapaoccpbcjgeaaCnmZ
import Derived.Test.YtapaoccpbcjgeaaCnmP
namespace Go.Proofs.Ytapaoccpbcjgeaa
open Go.RowKit Go.BigFrame

def idx (x : Int) : Nat := if x < 0 then (-2 * x + 1).toNat else (2 * x).toNat
theorem idx_inj {x y : Int} (h : idx x = idx y) : x = y := by
  unfold idx at h
  split at h <;> split at h <;> omega
theorem idx_lt {v x : Int} (h : Cnf.litB v x = true) : idx x < (2 * v + 2).toNat := by
  unfold Cnf.litB at h
  rw [decide_eq_true_eq] at h
  unfold idx
  split <;> omega
theorem index_any (x : Int) (w : World) (h1 : -1000000 ≤ x) (h2 : x ≤ 1000000) : Calls Try.prog 45 #[.int .i64 x] w fun e w' => e = .returned (.int .i64 (idx x : Int)) ∧ w' = w := by
  have hw1 : IntKind.i64.wrap (-2 * x) = -2 * x := IntWalk.i64_in _ (by omega)
  have hw2 : IntKind.i64.wrap (-2 * x + 1) = -2 * x + 1 := IntWalk.i64_in _ (by omega)
  have hw3 : IntKind.i64.wrap (2 * x) = 2 * x := IntWalk.i64_in _ (by omega)
  have HI := Lib.hid (show (idx x : Int) = if x < 0 then -2 * x + 1 else 2 * x by unfold idx; split <;> omega)
  generalize (idx x : Int) = r at *
  go_enter Try.func45, Try.ntmps45
  by_cases h : x < 0
  · have HR := Lib.hid (show r = -2 * x + 1 by rw [HI.out, if_pos h])
    go_wp2
    go_ret
    exact ⟨ret_int HR.out.symm, rfl⟩
  · have HR := Lib.hid (show r = 2 * x by rw [HI.out, if_neg h])
    go_wp2
    go_ret
    exact ⟨ret_int HR.out.symm, rfl⟩
end Go.Proofs.Ytapaoccpbcjgeaa

/- cnf: a walk in memory. -/
namespace Go.Proofs.Ytapaoccpbcjgeaa
open Go.RowKit Go.BigFrame
open Cnf (at_ Heaped)

/-- What of a walk never turns once it has begun: where its parts lie, its clauses, the clauses of each literal. -/
structure WPar where
  base : Nat
  g : Nat
  gl : Nat
  gh : Nat
  gs : Nat
  n : Nat
  V : Nat
  tag : Nat → Nat
  vc : Value
  va : Value
  ds : List (List Int)
  ams : List (List Int)
def WPar.St (p : WPar) : Nat → Prop := fun k => 5 ≤ p.tag k
def wcells (p : WPar) (rv : Value) (b : Bool) (yv : Value) : Array Value :=
  #[p.vc, .slice (some ⟨p.gl, 0, none⟩) p.n p.n, .slice (some ⟨p.gh, 0, none⟩) p.n p.n, p.va, .slice (some ⟨p.gs, 0, none⟩) p.V p.V, rv, .bool b, yv]
structure WSt (p : WPar) (w : World) (S lf : List Int) (hf sf : List Bool) (b : Bool) (rv yv : Value) (rdy : List Int) : Prop where
  tg : p.tag p.g = 1 ∧ p.tag p.gl = 2 ∧ p.tag p.gh = 3 ∧ p.tag p.gs = 4
  lo : p.base ≤ p.g ∧ p.base ≤ p.gl ∧ p.base ≤ p.gh ∧ p.base ≤ p.gs ∧ p.base ≤ w.heap.size
  fresh : ∀ k, w.heap.size ≤ k → p.tag k = 0
  blk : w.heap[p.g]? = some (.cells (wcells p rv b yv) 61 (0, 0))
  left : w.heap[p.gl]? = some (.cells (ints lf).toArray 3 (0, 0))
  holds : w.heap[p.gh]? = some (.cells (bools hf).toArray 4 (0, 0))
  set : w.heap[p.gs]? = some (.cells (bools sf).toArray 4 (0, 0))
  row : w.ownsRow p.base 3 1 rv S.length (ints S)
  rown : w.ownsRow p.base 3 1 yv rdy.length (ints rdy)
  heap : Heaped rdy rdy.length
  cl : OutS IRow w p.St p.vc p.ds
  am : OutS IRow w p.St p.va p.ams
  rt : ∀ k, rv.ownBlock = some k → p.tag k = 0
  yt : ∀ k, yv.ownBlock = some k → p.tag k = 0
  ry : ∀ k, rv.ownBlock = some k → yv.ownBlock ≠ some k
  ll : lf.length = p.n
  lh : hf.length = p.n
  ls : sf.length = p.V
theorem WSt.rdyAt {p : WPar} {w : World} {S lf : List Int} {hf sf : List Bool} {b : Bool} {rv yv : Value} {rdy : List Int} (H : WSt p w S lf hf sf b rv yv rdy) : Rdy w p.base p.g (wcells p rv b yv) yv rdy :=
  ⟨H.blk, rfl, H.rown, fun e => by have := H.yt _ e; rw [H.tg.1] at this; cases this⟩
/-- A change that leaves all the fixed parts. -/
theorem WSt.cl_ch {p : WPar} {w w' : World} {M : Nat → Prop} {v : Value} {ds : List (List Int)} (H : OutS IRow w p.St v ds) (hc : Ch w w' M) (hm : ∀ k, k < w.heap.size → 5 ≤ p.tag k → ¬ M k) : OutS IRow w' p.St v ds :=
  H.keep IRow.keeps (hc.same _ hm)
theorem WSt.drewN {p : WPar} {w : World} {S lf : List Int} {hf sf : List Bool} {b : Bool} {rv yv : Value} {rdy : List Int} (H : WSt p w S lf hf sf b rv yv rdy) (q : Nat) : WSt p (w.drewN q) S lf hf sf b rv yv rdy := by
  have hc : Ch w (w.drewN q) (fun _ => False) := (Ch.refl w _).drewN q
  exact ⟨H.tg, ⟨H.lo.1, H.lo.2.1, H.lo.2.2.1, H.lo.2.2.2.1, by rw [heap_drewN]; exact H.lo.2.2.2.2⟩, by rw [heap_drewN]; exact H.fresh, by rw [heap_drewN]; exact H.blk, by rw [heap_drewN]; exact H.left, by rw [heap_drewN]; exact H.holds, by rw [heap_drewN]; exact H.set,
    own_drewN H.row q, own_drewN H.rown q, H.heap, WSt.cl_ch H.cl hc (fun _ _ _ h => h), WSt.cl_ch H.am hc (fun _ _ _ h => h), H.rt, H.yt, H.ry, H.ll, H.lh, H.ls⟩
/-- The mark of a clash. -/
theorem WSt.clash {p : WPar} {w : World} {S lf : List Int} {hf sf : List Bool} {b : Bool} {rv yv : Value} {rdy : List Int} (H : WSt p w S lf hf sf b rv yv rdy) (b' : Bool) : WSt p (w.setCell ⟨p.g, 6, none⟩ (.bool b')) S lf hf sf b' rv yv rdy := by
  have hc : Ch w (w.setCell ⟨p.g, 6, none⟩ (.bool b')) (fun k => k = p.g) := (Ch.refl w (fun k => k = p.g)).setCell (p := ⟨p.g, 6, none⟩) rfl _
  have t := H.tg
  have hz : (w.setCell ⟨p.g, 6, none⟩ (.bool b')).heap.size = w.heap.size := by simp
  refine ⟨t, ⟨H.lo.1, H.lo.2.1, H.lo.2.2.1, H.lo.2.2.2.1, by rw [hz]; exact H.lo.2.2.2.2⟩, by rw [hz]; exact H.fresh, blk_set H.blk 6 _, hc.heap H.left ?_, hc.heap H.holds ?_, hc.heap H.set ?_,
    hc.own H.row ?_, hc.own H.rown ?_, H.heap, WSt.cl_ch H.cl hc ?_, WSt.cl_ch H.am hc ?_, H.rt, H.yt, H.ry, H.ll, H.lh, H.ls⟩
  · intro e; rw [e] at t; omega
  · intro e; rw [e] at t; omega
  · intro e; rw [e] at t; omega
  · intro k hk e; have := H.rt k hk; rw [e] at this; omega
  · intro k hk e; have := H.yt k hk; rw [e] at this; omega
  · intro k _ hk e; rw [e] at hk; omega
  · intro k _ hk e; rw [e] at hk; omega
theorem arr_set (l : List Value) (i : Nat) (v : Value) : l.toArray.setIfInBounds i v = (l.set i v).toArray := by simp
theorem ints_set (l : List Int) (i : Nat) (x : Int) : ints (l.set i x) = (ints l).set i (.int .i64 x) := by unfold ints; rw [List.map_set]
theorem bools_set (l : List Bool) (i : Nat) (x : Bool) : bools (l.set i x) = (bools l).set i (.bool x) := by unfold bools; rw [List.map_set]
theorem WSt.left_set {p : WPar} {w : World} {S lf : List Int} {hf sf : List Bool} {b : Bool} {rv yv : Value} {rdy : List Int} (H : WSt p w S lf hf sf b rv yv rdy) (i : Nat) (x : Int) : WSt p (w.setCell ⟨p.gl, i, none⟩ (.int .i64 x)) S (lf.set i x) hf sf b rv yv rdy := by
  have hc : Ch w (w.setCell ⟨p.gl, i, none⟩ (.int .i64 x)) (fun k => k = p.gl) := (Ch.refl w (fun k => k = p.gl)).setCell (p := ⟨p.gl, i, none⟩) rfl _
  have t := H.tg
  have hz : (w.setCell ⟨p.gl, i, none⟩ (.int .i64 x)).heap.size = w.heap.size := by simp
  refine ⟨t, ⟨H.lo.1, H.lo.2.1, H.lo.2.2.1, H.lo.2.2.2.1, by rw [hz]; exact H.lo.2.2.2.2⟩, by rw [hz]; exact H.fresh, hc.heap H.blk ?_, by rw [blk_set H.left i _, arr_set, ints_set], hc.heap H.holds ?_, hc.heap H.set ?_,
    hc.own H.row ?_, hc.own H.rown ?_, H.heap, WSt.cl_ch H.cl hc ?_, WSt.cl_ch H.am hc ?_, H.rt, H.yt, H.ry, by rw [List.length_set]; exact H.ll, H.lh, H.ls⟩
  · intro e; rw [e] at t; omega
  · intro e; rw [e] at t; omega
  · intro e; rw [e] at t; omega
  · intro k hk e; have := H.rt k hk; rw [e] at this; omega
  · intro k hk e; have := H.yt k hk; rw [e] at this; omega
  · intro k _ hk e; rw [e] at hk; omega
  · intro k _ hk e; rw [e] at hk; omega
theorem WSt.hold_set {p : WPar} {w : World} {S lf : List Int} {hf sf : List Bool} {b : Bool} {rv yv : Value} {rdy : List Int} (H : WSt p w S lf hf sf b rv yv rdy) (i : Nat) (x : Bool) : WSt p (w.setCell ⟨p.gh, i, none⟩ (.bool x)) S lf (hf.set i x) sf b rv yv rdy := by
  have hc : Ch w (w.setCell ⟨p.gh, i, none⟩ (.bool x)) (fun k => k = p.gh) := (Ch.refl w (fun k => k = p.gh)).setCell (p := ⟨p.gh, i, none⟩) rfl _
  have t := H.tg
  have hz : (w.setCell ⟨p.gh, i, none⟩ (.bool x)).heap.size = w.heap.size := by simp
  refine ⟨t, ⟨H.lo.1, H.lo.2.1, H.lo.2.2.1, H.lo.2.2.2.1, by rw [hz]; exact H.lo.2.2.2.2⟩, by rw [hz]; exact H.fresh, hc.heap H.blk ?_, hc.heap H.left ?_, by rw [blk_set H.holds i _, arr_set, bools_set], hc.heap H.set ?_,
    hc.own H.row ?_, hc.own H.rown ?_, H.heap, WSt.cl_ch H.cl hc ?_, WSt.cl_ch H.am hc ?_, H.rt, H.yt, H.ry, H.ll, by rw [List.length_set]; exact H.lh, H.ls⟩
  · intro e; rw [e] at t; omega
  · intro e; rw [e] at t; omega
  · intro e; rw [e] at t; omega
  · intro k hk e; have := H.rt k hk; rw [e] at this; omega
  · intro k hk e; have := H.yt k hk; rw [e] at this; omega
  · intro k _ hk e; rw [e] at hk; omega
  · intro k _ hk e; rw [e] at hk; omega
theorem WSt.set_set {p : WPar} {w : World} {S lf : List Int} {hf sf : List Bool} {b : Bool} {rv yv : Value} {rdy : List Int} (H : WSt p w S lf hf sf b rv yv rdy) (i : Nat) (x : Bool) : WSt p (w.setCell ⟨p.gs, i, none⟩ (.bool x)) S lf hf (sf.set i x) b rv yv rdy := by
  have hc : Ch w (w.setCell ⟨p.gs, i, none⟩ (.bool x)) (fun k => k = p.gs) := (Ch.refl w (fun k => k = p.gs)).setCell (p := ⟨p.gs, i, none⟩) rfl _
  have t := H.tg
  have hz : (w.setCell ⟨p.gs, i, none⟩ (.bool x)).heap.size = w.heap.size := by simp
  refine ⟨t, ⟨H.lo.1, H.lo.2.1, H.lo.2.2.1, H.lo.2.2.2.1, by rw [hz]; exact H.lo.2.2.2.2⟩, by rw [hz]; exact H.fresh, hc.heap H.blk ?_, hc.heap H.left ?_, hc.heap H.holds ?_, by rw [blk_set H.set i _, arr_set, bools_set],
    hc.own H.row ?_, hc.own H.rown ?_, H.heap, WSt.cl_ch H.cl hc ?_, WSt.cl_ch H.am hc ?_, H.rt, H.yt, H.ry, H.ll, H.lh, by rw [List.length_set]; exact H.ls⟩
  · intro e; rw [e] at t; omega
  · intro e; rw [e] at t; omega
  · intro e; rw [e] at t; omega
  · intro k hk e; have := H.rt k hk; rw [e] at this; omega
  · intro k hk e; have := H.yt k hk; rw [e] at this; omega
  · intro k _ hk e; rw [e] at hk; omega
  · intro k _ hk e; rw [e] at hk; omega
/-- The heap of ready clauses: pushed or popped. -/
theorem WSt.heaped {p : WPar} {w w' : World} {S lf : List Int} {hf sf : List Bool} {b : Bool} {rv yv v' : Value} {rdy h' : List Int} (H : WSt p w S lf hf sf b rv yv rdy)
    (hr : Rdy w' p.base p.g ((wcells p rv b yv).setIfInBounds 7 v') v' h') (hc : Ch w w' (Two p.g yv)) (hm : Moved w yv v') (hh : Heaped h' h'.length) : WSt p w' S lf hf sf b rv v' h' := by
  have t := H.tg
  have no : ∀ k, p.tag k ≠ 1 → p.tag k ≠ 0 → ¬ Two p.g yv k := by
    rintro k h1 h0 (e | e)
    · rw [e] at h1; omega
    · exact h0 (H.yt k e)
  refine ⟨t, ⟨H.lo.1, H.lo.2.1, H.lo.2.2.1, H.lo.2.2.2.1, Nat.le_trans H.lo.2.2.2.2 hc.size⟩, fun k hk => H.fresh k (Nat.le_trans hc.size hk), hr.blk, hc.heap H.left (no _ (by omega) (by omega)), hc.heap H.holds (no _ (by omega) (by omega)), hc.heap H.set (no _ (by omega) (by omega)),
    hc.own H.row ?_, hr.own, hh, WSt.cl_ch H.cl hc (fun k _ hk => no k (by omega) (by omega)), WSt.cl_ch H.am hc (fun k _ hk => no k (by omega) (by omega)), H.rt, ?_, ?_, H.ll, H.lh, H.ls⟩
  · rintro k hk (e | e)
    · have := H.rt k hk; rw [e] at this; omega
    · exact H.ry k hk e
  · intro k hk
    rcases hm with e | ⟨q, e, hq⟩
    · exact H.yt k (by rw [← e]; exact hk)
    · rw [e] at hk; cases hk; exact H.fresh _ hq
  · intro k hk
    have h1 := (H.row.lt k hk).2
    exact hm.ne h1 (H.ry k hk)
end Go.Proofs.Ytapaoccpbcjgeaa

/- cnf: a walk: count. -/
namespace Go.Proofs.Ytapaoccpbcjgeaa
open Go.RowKit Go.BigFrame
open Cnf (at_ Heaped)

structure WCells (p : WPar) (w : World) (rv yv : Value) (b : Bool) : Prop where
  c0 : w.cell? ⟨p.g, 0, none⟩ = some p.vc
  c1 : w.cell? ⟨p.g, 1, none⟩ = some (.slice (some ⟨p.gl, 0, none⟩) p.n p.n)
  c2 : w.cell? ⟨p.g, 2, none⟩ = some (.slice (some ⟨p.gh, 0, none⟩) p.n p.n)
  c3 : w.cell? ⟨p.g, 3, none⟩ = some p.va
  c4 : w.cell? ⟨p.g, 4, none⟩ = some (.slice (some ⟨p.gs, 0, none⟩) p.V p.V)
  c5 : w.cell? ⟨p.g, 5, none⟩ = some rv
  c6 : w.cell? ⟨p.g, 6, none⟩ = some (.bool b)
  c7 : w.cell? ⟨p.g, 7, none⟩ = some yv
  f : ∀ i, w.frozen? ⟨p.g, i, none⟩ = false
theorem WSt.cells {p : WPar} {w : World} {S lf : List Int} {hf sf : List Bool} {b : Bool} {rv yv : Value} {rdy : List Int} (H : WSt p w S lf hf sf b rv yv rdy) : WCells p w rv yv b :=
  ⟨blk_cell H.blk 0, blk_cell H.blk 1, blk_cell H.blk 2, blk_cell H.blk 3, blk_cell H.blk 4, blk_cell H.blk 5, blk_cell H.blk 6, blk_cell H.blk 7, fun i => blk_free H.blk i⟩
theorem WSt.leftAt {p : WPar} {w : World} {S lf : List Int} {hf sf : List Bool} {b : Bool} {rv yv : Value} {rdy : List Int} (H : WSt p w S lf hf sf b rv yv rdy) (i : Nat) (hi : i < p.n) : w.cell? ⟨p.gl, i, none⟩ = some (.int .i64 (lf.getD i 0)) ∧ w.frozen? ⟨p.gl, i, none⟩ = false :=
  ⟨by rw [blk_cell H.left i, List.getElem?_toArray]; exact ints_get lf i (by rw [H.ll]; exact hi), blk_free H.left i⟩
theorem WSt.holdAt {p : WPar} {w : World} {S lf : List Int} {hf sf : List Bool} {b : Bool} {rv yv : Value} {rdy : List Int} (H : WSt p w S lf hf sf b rv yv rdy) (i : Nat) (hi : i < p.n) : w.cell? ⟨p.gh, i, none⟩ = some (.bool (hf.getD i false)) ∧ w.frozen? ⟨p.gh, i, none⟩ = false :=
  ⟨by rw [blk_cell H.holds i, List.getElem?_toArray]; exact bools_get hf i (by rw [H.lh]; exact hi), blk_free H.holds i⟩
theorem WSt.setAt {p : WPar} {w : World} {S lf : List Int} {hf sf : List Bool} {b : Bool} {rv yv : Value} {rdy : List Int} (H : WSt p w S lf hf sf b rv yv rdy) (i : Nat) (hi : i < p.V) : w.cell? ⟨p.gs, i, none⟩ = some (.bool (sf.getD i false)) ∧ w.frozen? ⟨p.gs, i, none⟩ = false :=
  ⟨by rw [blk_cell H.set i, List.getElem?_toArray]; exact bools_get sf i (by rw [H.ls]; exact hi), blk_free H.set i⟩
structure Counted (p : WPar) (w' : World) (S lf : List Int) (hf sf : List Bool) (b : Bool) (rv : Value) (rdy : List Int) (i : Nat) (x : Int) (yv' : Value) (rdy' : List Int) : Prop where
  st : WSt p w' S lf hf sf (b || decide (x = 0)) rv yv' rdy'
  mem : ∀ k, k ∈ rdy' ↔ k ∈ rdy ∨ (k = (i : Int) ∧ x = 1)
  len : rdy'.length = rdy.length + (if x = 1 then 1 else 0)
def CountPost (p : WPar) (S lf : List Int) (hf sf : List Bool) (b : Bool) (rv : Value) (rdy : List Int) (i : Nat) (x : Int) (w : World) (e : Ending) (w' : World) : Prop :=
  e = .returned (.tuple #[]) ∧ Below p.base w w' ∧ Ch w w' (fun k => ¬ 5 ≤ p.tag k) ∧ ∃ yv' rdy', Counted p w' S lf hf sf b rv rdy i x yv' rdy'
set_option maxRecDepth 100000 in
set_option maxHeartbeats 1000000 in
theorem wcount_any (p : WPar) (i : Nat) (S lf : List Int) (hf sf : List Bool) (b : Bool) (rv yv : Value) (rdy : List Int) (w : World) (H : WSt p w S lf hf sf b rv yv rdy) (hi : i < p.n) (_hn : p.n ≤ 4000000) (hr : rdy.length ≤ 7000000) :
    Calls Try.prog 46 #[.pointer (some ⟨p.g, 0, none⟩), .int .i64 (i : Int)] w (CountPost p S lf hf sf b rv rdy i (lf.getD i 0) w) := by
  obtain ⟨x, hx⟩ : ∃ x, x = lf.getD i 0 := ⟨_, rfl⟩
  rw [← hx]
  have HP := Lib.hid (fun (e : Ending) (w' : World) (he : e = .returned (.tuple #[])) (h1 : Below p.base w w') (h3 : Ch w w' (fun k => ¬ 5 ≤ p.tag k)) (yv' : Value) (rdy' : List Int) (h2 : Counted p w' S lf hf sf b rv rdy i x yv' rdy') => show CountPost p S lf hf sf b rv rdy i x w e w' from ⟨he, h1, h3, yv', rdy', h2⟩)
  generalize CountPost p S lf hf sf b rv rdy i x w = post at *
  have hci := (H.leftAt i hi).1
  rw [← hx] at hci
  have HH := Lib.hid H
  have hi' : (i : Int) < (p.n : Int) := by omega
  clear hx
  obtain ⟨c0, c1, c2, c3, c4, c5, c6, c7, cf⟩ := H.cells
  have hf6 := cf 6
  clear c0 c2 c3 c4 c5 cf H
  by_cases h0 : x = 0
  · subst h0
    have HW := Lib.hid (HH.out.clash true)
    have HB := Lib.hid (show Below p.base w (w.setCell ⟨p.g, 6, none⟩ (.bool true)) from (Below.refl _ _).setCell HH.out.lo.1 _)
    have HCH := Lib.hid (show Ch w (w.setCell ⟨p.g, 6, none⟩ (.bool true)) (fun k => ¬ 5 ≤ p.tag k) from (Ch.refl w (fun k => ¬ 5 ≤ p.tag k)).setCell (p := ⟨p.g, 6, none⟩) (by have := HH.out.tg.1; show ¬ 5 ≤ p.tag p.g; omega) _)
    go_enter Try.func46, Try.ntmps46
    go_wp2
    go_end0
    exact HP.out _ _ rfl HB.out HCH.out yv rdy ⟨by simpa using HW.out, fun k => by simp, by simp⟩
  · by_cases h1 : x = 1
    · subst h1
      have HPU := Lib.hid (heapPush_any (i : Int) p.base p.g _ yv rdy w HH.out.rdyAt HH.out.heap HH.out.lo.2.2.2.2 hr)
      unfold hp at HPU
      clear h0
      go_enter Try.func46, Try.ntmps46
      go_wp2_with fail
      refine HPU.out.mono ?_
      rintro e w1 ⟨rfl, v', h', hp⟩
      have HB := Lib.hid (hp.ch.below HH.out.lo.2.2.2.2 (by
        rintro k (e | e)
        · rw [e]; exact HH.out.lo.1
        · exact (HH.out.rown.lt k e).1))
      have HW := Lib.hid (HH.out.heaped hp.rdy hp.ch hp.moved hp.heap)
      have HM := Lib.hid hp
      have HCH := Lib.hid (hp.ch.weak (M' := fun k => ¬ 5 ≤ p.tag k) (by
        rintro k _ (e | e)
        · rw [e]; have := HH.out.tg.1; omega
        · have := HH.out.yt k e; omega))
      clear hp
      go_wp2
      go_end0
      exact HP.out _ _ rfl HB.out HCH.out v' h' ⟨by simpa using HW.out, fun k => by rw [HM.out.mem]; simp, by rw [HM.out.len]; simp⟩
    · go_enter Try.func46, Try.ntmps46
      have hx0 : decide (x = 0) = false := decide_eq_false h0
      go_wp2
      go_end0
      exact HP.out _ _ rfl (Below.refl _ _) (Ch.refl _ _) yv rdy ⟨by simpa [h0] using HH.out, fun k => by simp [h1], by simp [h1]⟩
end Go.Proofs.Ytapaoccpbcjgeaa

/- cnf: adding a literal: plain maths. -/
namespace Go.Proofs.Ytapaoccpbcjgeaa
open Cnf (litB countN leftL heldB zeroB clashB Kept firstsI)

/-- The clauses that have a literal. -/
def amongL (cs : List (List Int)) (x : Int) : List Int := List.map (fun (i : Nat) => (i : Int)) ((List.range cs.length).filter fun i => decide (x ∈ cs.getD i []))
theorem among_mem (cs : List (List Int)) (x k : Int) : k ∈ amongL cs x ↔ ∃ i : Nat, k = (i : Int) ∧ i < cs.length ∧ x ∈ cs.getD i [] := by
  unfold amongL
  rw [List.mem_map]
  constructor
  · rintro ⟨i, hi, rfl⟩
    rw [List.mem_filter, List.mem_range, decide_eq_true_eq] at hi
    exact ⟨i, rfl, hi.1, hi.2⟩
  · rintro ⟨i, rfl, h1, h2⟩
    exact ⟨i, by rw [List.mem_filter, List.mem_range, decide_eq_true_eq]; exact ⟨h1, h2⟩, rfl⟩
theorem among_nodup (cs : List (List Int)) (x : Int) : (amongL cs x).Nodup := by
  unfold amongL
  rw [List.Nodup, List.pairwise_map]
  exact ((List.nodup_range).filter _).imp fun {a b} h e => h (by omega)
theorem among_at (cs : List (List Int)) (x : Int) (k : Nat) (h : k < (amongL cs x).length) : ∃ i : Nat, (amongL cs x).getD k 0 = (i : Int) ∧ i < cs.length ∧ x ∈ cs.getD i [] := by
  have : (amongL cs x).getD k 0 ∈ amongL cs x := by simp [List.getD, h]
  exact (among_mem cs x _).1 this
/-- Rows of marks, set at places. -/
def setsT (l : List Int) (hf : List Bool) : List Bool := l.foldl (fun h i => h.set i.toNat true) hf
theorem setsT_snoc (l : List Int) (x : Int) (hf : List Bool) : setsT (l ++ [x]) hf = (setsT l hf).set x.toNat true := by simp [setsT]
theorem setsT_len : ∀ (l : List Int) (hf : List Bool), (setsT l hf).length = hf.length
  | [], hf => rfl
  | x :: l, hf => by
    show (setsT l (hf.set x.toNat true)).length = _
    rw [setsT_len l, List.length_set]
theorem getD_set {α : Type} (l : List α) (i j : Nat) (v d : α) (hj : j < l.length) : (l.set i v).getD j d = if i = j then v else l.getD j d := by
  simp only [List.getD]
  rw [List.getElem?_set]
  by_cases h : i = j
  · subst h; simp [hj]
  · rw [if_neg h, if_neg h]
theorem setsT_get : ∀ (l : List Int) (hf : List Bool) (j : Nat), (∀ x ∈ l, 0 ≤ x) → j < hf.length → (setsT l hf).getD j false = (hf.getD j false || decide ((j : Int) ∈ l))
  | [], hf, j, _, _ => by simp [setsT]
  | x :: l, hf, j, h0, hj => by
    show (setsT l (hf.set x.toNat true)).getD j false = _
    rw [setsT_get l _ j (fun y hy => h0 y (by simp [hy])) (by simpa using hj), getD_set _ _ _ _ _ hj]
    have hx := h0 x (by simp)
    by_cases e : x.toNat = j
    · have : (j : Int) = x := by omega
      rw [if_pos e, this]; simp
    · have : ¬ (j : Int) = x := by omega
      rw [if_neg e]
      congr 1
      rw [decide_eq_decide, List.mem_cons]
      exact ⟨.inr, fun h => h.resolve_left this⟩
def decs (l : List Int) (lf : List Int) : List Int := l.foldl (fun h i => h.set i.toNat (h.getD i.toNat 0 - 1)) lf
theorem decs_snoc (l : List Int) (x : Int) (lf : List Int) : decs (l ++ [x]) lf = (decs l lf).set x.toNat ((decs l lf).getD x.toNat 0 - 1) := by simp [decs]
theorem decs_len : ∀ (l : List Int) (lf : List Int), (decs l lf).length = lf.length
  | [], lf => rfl
  | x :: l, lf => by
    show (decs l _).length = _
    rw [decs_len l, List.length_set]
theorem decs_get : ∀ (l : List Int) (lf : List Int) (j : Nat), (∀ x ∈ l, 0 ≤ x) → l.Nodup → j < lf.length → (decs l lf).getD j 0 = lf.getD j 0 - if (j : Int) ∈ l then 1 else 0
  | [], lf, j, _, _, _ => by simp [decs]
  | x :: l, lf, j, h0, hn, hj => by
    show (decs l (lf.set x.toNat (lf.getD x.toNat 0 - 1))).getD j 0 = _
    have hx := h0 x (by simp)
    rw [List.nodup_cons] at hn
    rw [decs_get l _ j (fun y hy => h0 y (by simp [hy])) hn.2 (by simpa using hj), getD_set _ _ _ _ _ hj]
    by_cases e : x.toNat = j
    · have e2 : (j : Int) = x := by omega
      rw [if_pos e, e2, if_neg hn.1, if_pos (by simp), e]; omega
    · have e2 : ¬ (j : Int) = x := by omega
      rw [if_neg e]
      by_cases c : (j : Int) ∈ l
      · rw [if_pos c, if_pos (by simp [c])]
      · rw [if_neg c, if_neg (by simp [c, e2])]
theorem sum_set (l : List Int) (i : Nat) (hi : i < l.length) (v : Int) : (l.set i v).sum = l.sum - l.getD i 0 + v := by
  induction l generalizing i with
  | nil => simp at hi
  | cons x l ih =>
    cases i with
    | zero => simp [List.getD]; omega
    | succ i =>
      have := ih i (by simpa using hi)
      simp [List.getD] at this ⊢
      omega
def lefts (cs : List (List Int)) (S : List Int) : List Int := cs.map fun c => ((leftL c S).length : Int)
def helds (cs : List (List Int)) (S : List Int) : List Bool := cs.map fun c => heldB c S
theorem lefts_get (cs : List (List Int)) (S : List Int) (j : Nat) (h : j < cs.length) : (lefts cs S).getD j 0 = ((leftL (cs.getD j []) S).length : Int) := by
  simp [lefts, List.getD, h]
theorem helds_get (cs : List (List Int)) (S : List Int) (j : Nat) (h : j < cs.length) : (helds cs S).getD j false = heldB (cs.getD j []) S := by
  simp [helds, List.getD, h]
theorem getD_ext {α : Type} (xs ys : List α) (d : α) (hl : xs.length = ys.length) (h : ∀ j, j < xs.length → xs.getD j d = ys.getD j d) : xs = ys := by
  apply List.ext_getElem hl
  intro j h1 h2
  have := h j h1
  simpa [List.getD, h1, h2] using this
theorem helds_add (cs : List (List Int)) (S : List Int) (x : Int) : setsT (amongL cs x) (helds cs S) = helds cs (S ++ [x]) := by
  apply getD_ext _ _ false (by rw [setsT_len]; simp [helds])
  intro j hj
  rw [setsT_len] at hj
  have hj' : j < cs.length := by simpa [helds] using hj
  rw [setsT_get _ _ _ (fun y hy => by obtain ⟨i, rfl, _⟩ := (among_mem cs x y).1 hy; omega) hj, helds_get _ _ _ hj', helds_get _ _ _ hj', Bool.eq_iff_iff, Bool.or_eq_true, Cnf.heldB_iff, Cnf.heldB_iff, decide_eq_true_eq, among_mem]
  constructor
  · rintro (⟨y, h1, h2⟩ | ⟨i, h1, h2, h3⟩)
    · exact ⟨y, h1, by simp [h2]⟩
    · have : i = j := by omega
      subst this
      exact ⟨x, h3, by simp⟩
  · rintro ⟨y, h1, h2⟩
    rcases List.mem_append.1 h2 with h | h
    · exact .inl ⟨y, h1, h⟩
    · rw [List.mem_singleton] at h; subst h
      exact .inr ⟨j, rfl, hj', h1⟩
theorem lefts_add (cs : List (List Int)) (S : List Int) (x : Int) (hx : x ∉ S) : decs (amongL cs (-x)) (lefts cs S) = lefts cs (S ++ [x]) := by
  apply getD_ext _ _ 0 (by rw [decs_len]; simp [lefts])
  intro j hj
  rw [decs_len] at hj
  have hj' : j < cs.length := by simpa [lefts] using hj
  rw [decs_get _ _ _ (fun y hy => by obtain ⟨i, rfl, _⟩ := (among_mem cs (-x) y).1 hy; omega) (among_nodup _ _) hj, lefts_get _ _ _ hj', lefts_get _ _ _ hj', Cnf.left_snoc _ S x hx]
  by_cases c : -x ∈ cs.getD j []
  · rw [if_pos ((among_mem _ _ _).2 ⟨j, rfl, hj', c⟩), if_pos c]
    have := (Cnf.mem_left (cs.getD j []) S (-x)).2 ⟨c, by rw [Int.neg_neg]; exact hx⟩
    have := List.length_pos_of_mem this
    omega
  · rw [if_neg (fun h => by obtain ⟨i, h1, _, h3⟩ := (among_mem _ _ _).1 h; have : i = j := by omega
                            subst this; exact c h3), if_neg c]
    omega
/-- The round's count in the second loop: what is left of the clause at hand. -/
theorem dec_at (cs : List (List Int)) (S : List Int) (x : Int) (hx : x ∉ S) (k i : Nat) (hk : k < (amongL cs (-x)).length) (hi : (amongL cs (-x)).getD k 0 = (i : Int)) (hil : i < cs.length) :
    (decs ((amongL cs (-x)).take k) (lefts cs S)).getD i 0 - 1 = ((leftL (cs.getD i []) (S ++ [x])).length : Int) ∧ 1 ≤ (decs ((amongL cs (-x)).take k) (lefts cs S)).getD i 0 := by
  have hnn : ∀ y ∈ (amongL cs (-x)).take k, 0 ≤ y := fun y hy => by
    obtain ⟨i, rfl, _⟩ := (among_mem cs (-x) y).1 (List.mem_of_mem_take hy); omega
  have hnd : ((amongL cs (-x)).take k).Nodup := (List.take_sublist _ _).nodup (among_nodup cs (-x))
  have hnot : ¬ (i : Int) ∈ (amongL cs (-x)).take k := by
    intro h
    have h2 := among_nodup cs (-x)
    have e : amongL cs (-x) = (amongL cs (-x)).take k ++ (amongL cs (-x)).drop k := (List.take_append_drop _ _).symm
    rw [e, List.nodup_append] at h2
    refine h2.2.2 _ h _ ?_ rfl
    rw [List.drop_eq_getElem_cons hk]
    simp [List.getD, hk] at hi
    simp [hi]
  have hc : -x ∈ cs.getD i [] := by
    obtain ⟨i', h1, _, h3⟩ := among_at cs (-x) k hk
    have : i' = i := by omega
    subst this; exact h3
  rw [decs_get _ _ _ hnn hnd (by simpa [lefts] using hil), lefts_get _ _ _ hil, if_neg hnot, Cnf.left_snoc _ S x hx, if_pos hc]
  have := (Cnf.mem_left (cs.getD i []) S (-x)).2 ⟨hc, by rw [Int.neg_neg]; exact hx⟩
  have := List.length_pos_of_mem this
  omega
theorem sum_nn : ∀ (l : List Int), (∀ j, j < l.length → 0 ≤ l.getD j 0) → 0 ≤ l.sum
  | [], _ => by simp
  | x :: l, h => by
    have h0 := h 0 (by simp)
    have := sum_nn l fun j hj => by have := h (j + 1) (by simpa using hj); simpa [List.getD] using this
    simp [List.getD] at h0
    rw [List.sum_cons]; omega
theorem decs_nn (cs : List (List Int)) (S : List Int) (x : Int) (hx : x ∉ S) (k : Nat) : 0 ≤ (decs ((amongL cs (-x)).take k) (lefts cs S)).sum := by
  have hnn : ∀ y ∈ (amongL cs (-x)).take k, 0 ≤ y := fun y hy => by
    obtain ⟨i, rfl, _⟩ := (among_mem cs (-x) y).1 (List.mem_of_mem_take hy); omega
  have hnd : ((amongL cs (-x)).take k).Nodup := (List.take_sublist _ _).nodup (among_nodup cs (-x))
  apply sum_nn
  intro j hj
  rw [decs_len] at hj
  have hj' : j < cs.length := by simpa [lefts] using hj
  rw [decs_get _ _ _ hnn hnd hj, lefts_get _ _ _ hj']
  by_cases c : (j : Int) ∈ (amongL cs (-x)).take k
  · rw [if_pos c]
    obtain ⟨i, h1, _, h3⟩ := (among_mem cs (-x) _).1 (List.mem_of_mem_take c)
    have : i = j := by omega
    subst this
    have := (Cnf.mem_left (cs.getD i []) S (-x)).2 ⟨h3, by rw [Int.neg_neg]; exact hx⟩
    have := List.length_pos_of_mem this
    omega
  · rw [if_neg c]; omega
theorem take_snocI (l : List Int) (k : Nat) (h : k < l.length) : l.take (k + 1) = l.take k ++ [l.getD k 0] := by
  rw [List.take_succ_eq_append_getElem h]
  simp [List.getD, h]
section
open Cnf
/-- As Kept, but that clauses that have x may be missing. -/
structure KeptX (cs : List (List Int)) (set : List Int) (ready : List Nat) (clash : Bool) (x : Int) : Prop where
  clash_eq : clash = zeroB cs set
  ones : ∀ i c, cs[i]? = some c → (leftL c set).length = 1 → heldB c set = true ∨ i ∈ ready ∨ x ∈ c
  few : ∀ i ∈ ready, ∃ c, cs[i]? = some c ∧ (leftL c set).length ≤ 1
theorem KeptX.of {cs : List (List Int)} {set : List Int} {ready : List Nat} {b : Bool} (h : Kept cs set ready b) (x : Int) : KeptX cs set ready b x :=
  ⟨h.clash_eq, fun i c hc h1 => (h.ones i c hc h1).imp id .inl, h.few⟩
theorem KeptX.held {cs : List (List Int)} {set : List Int} {ready : List Nat} {b : Bool} {x : Int} (h : KeptX cs set ready b x) (hx : x ∈ set) : Kept cs set ready b :=
  ⟨h.clash_eq, fun i c hc h1 => by
    rcases h.ones i c hc h1 with h2 | h2 | h2
    · exact .inl h2
    · exact .inr h2
    · exact .inl ((Cnf.heldB_iff c set).2 ⟨x, h2, hx⟩), h.few⟩
theorem KeptX.drop {cs : List (List Int)} {set : List Int} {ready rest : List Nat} {b : Bool} {i : Nat} {c : List Int} {x : Int} (h : Kept cs set ready b) (hc : cs[i]? = some c) (hx : x ∈ c) (hr : ∀ j, j ∈ rest → j ∈ ready) (hr2 : ∀ j ∈ ready, j = i ∨ j ∈ rest) : KeptX cs set rest b x :=
  ⟨h.clash_eq, fun j d hd h1 => by
    rcases h.ones j d hd h1 with h2 | h2
    · exact .inl h2
    · rcases hr2 j h2 with rfl | h3
      · rw [hc] at hd; cases hd; exact .inr (.inr hx)
      · exact .inr (.inl h3), fun j hj => h.few j (hr j hj)⟩
theorem KeptX.add {cs : List (List Int)} {set : List Int} {ready ready' : List Nat} {b b' : Bool} (x : Int) (hx : x ∉ set) (h0 : x ≠ 0) (h : KeptX cs set ready b x)
    (hr : ∀ j, j ∈ ready' ↔ j ∈ ready ∨ ∃ c, cs[j]? = some c ∧ -x ∈ c ∧ (leftL c (set ++ [x])).length = 1)
    (hb : b' = (b || decide (-x ∈ set) || cs.any fun c => decide (-x ∈ c) && decide ((leftL c (set ++ [x])).length = 0))) : Kept cs (set ++ [x]) ready' b' := by
  refine ⟨?_, fun j d hd h1 => ?_, fun j hj => ?_⟩
  · rw [hb, h.clash_eq]
    unfold zeroB
    have hp : pairB (set ++ [x]) = (pairB set || decide (-x ∈ set)) := by
      rw [Bool.eq_iff_iff, Bool.or_eq_true, pairB_iff, pairB_iff, decide_eq_true_eq]
      constructor
      · rintro ⟨y, hy, hn⟩
        simp at hy hn
        rcases hy with hy | rfl
        · rcases hn with hn | hn
          · exact .inl ⟨y, hy, hn⟩
          · exact .inr (by rw [← hn, Int.neg_neg]; exact hy)
        · rcases hn with hn | hn
          · exact .inr hn
          · omega
      · rintro (⟨y, hy, hn⟩ | hn)
        · exact ⟨y, by simp [hy], by simp [hn]⟩
        · exact ⟨x, by simp, by simp [hn]⟩
    have hz : (cs.any fun c => decide ((leftL c (set ++ [x])).length = 0)) = ((cs.any fun c => decide ((leftL c set).length = 0)) || cs.any fun c => decide (-x ∈ c) && decide ((leftL c (set ++ [x])).length = 0)) := by
      rw [Bool.eq_iff_iff, Bool.or_eq_true, List.any_eq_true, List.any_eq_true, List.any_eq_true]
      constructor
      · rintro ⟨c, hc, h1⟩
        by_cases hn : -x ∈ c
        · exact .inr ⟨c, hc, by rw [h1, decide_eq_true hn]; rfl⟩
        · have := left_snoc c set x hx
          rw [if_neg hn] at this
          exact .inl ⟨c, hc, by rw [decide_eq_true_eq] at h1 ⊢; omega⟩
      · rintro (⟨c, hc, h1⟩ | ⟨c, hc, h1⟩)
        · have := left_snoc c set x hx
          exact ⟨c, hc, by rw [decide_eq_true_eq] at h1 ⊢; omega⟩
        · rw [Bool.and_eq_true] at h1
          exact ⟨c, hc, h1.2⟩
    rw [hp, hz]
    cases pairB set <;> cases decide (-x ∈ set) <;> cases (cs.any fun c => decide ((leftL c set).length = 0)) <;> simp
  · have hs := left_snoc d set x hx
    by_cases hn : -x ∈ d
    · exact .inr ((hr j).2 (.inr ⟨d, hd, hn, h1⟩))
    · rw [if_neg hn] at hs
      rcases h.ones j d hd (by omega) with h2 | h2 | h2
      · exact .inl (held_mono d set x h2)
      · exact .inr ((hr j).2 (.inl h2))
      · exact .inl ((heldB_iff d _).2 ⟨x, h2, by simp⟩)
  · rcases (hr j).1 hj with h2 | ⟨c, hc, _, h1⟩
    · obtain ⟨c, hc, hl⟩ := h.few j h2
      have := left_snoc c set x hx
      exact ⟨c, hc, by omega⟩
    · exact ⟨c, hc, by omega⟩
end
def Ready (cs : List (List Int)) (S : List Int) (rdy : List Int) (b : Bool) : Prop := Kept cs S (rdy.map Int.toNat) b ∧ ∀ k ∈ rdy, 0 ≤ k
def ReadyX (cs : List (List Int)) (S : List Int) (rdy : List Int) (b : Bool) (x : Int) : Prop := KeptX cs S (rdy.map Int.toNat) b x ∧ ∀ k ∈ rdy, 0 ≤ k
theorem ReadyX.of {cs : List (List Int)} {S rdy : List Int} {b : Bool} (h : Ready cs S rdy b) (x : Int) : ReadyX cs S rdy b x := ⟨KeptX.of h.1 x, h.2⟩
theorem ReadyX.held {cs : List (List Int)} {S rdy : List Int} {b : Bool} {x : Int} (h : ReadyX cs S rdy b x) (hx : x ∈ S) : Ready cs S rdy b := ⟨h.1.held hx, h.2⟩
theorem rdy_mem {rdy : List Int} (h : ∀ k ∈ rdy, 0 ≤ k) (j : Nat) : j ∈ rdy.map Int.toNat ↔ (j : Int) ∈ rdy := by
  rw [List.mem_map]
  constructor
  · rintro ⟨k, hk, rfl⟩
    have := h k hk
    rwa [Int.toNat_of_nonneg this]
  · intro hk
    exact ⟨j, hk, by omega⟩
/-- What the loop over the clauses of the opposite has pushed, and whether one came to nothing. -/
theorem ready_add {cs : List (List Int)} {S rdy rdy' : List Int} {b b' : Bool} (x : Int) (hx : x ∉ S) (h0 : x ≠ 0) (H : ReadyX cs S rdy b x)
    (hr : ∀ k : Int, k ∈ rdy' ↔ k ∈ rdy ∨ (k ∈ amongL cs (-x) ∧ (leftL (cs.getD k.toNat []) (S ++ [x])).length = 1))
    (hb : b' = ((b || decide (-x ∈ S)) || (amongL cs (-x)).any fun k => decide ((leftL (cs.getD k.toNat []) (S ++ [x])).length = 0))) : Ready cs (S ++ [x]) rdy' b' := by
  have hnn : ∀ k ∈ rdy', 0 ≤ k := fun k hk => by
    rcases (hr k).1 hk with h | ⟨h, _⟩
    · exact H.2 k h
    · obtain ⟨i, rfl, _⟩ := (among_mem cs (-x) k).1 h; omega
  refine ⟨H.1.add x hx h0 (fun j => ?_) ?_, hnn⟩
  · rw [rdy_mem hnn, rdy_mem H.2, hr]
    constructor
    · rintro (h | ⟨h1, h2⟩)
      · exact .inl h
      · obtain ⟨i, e, hi, hm⟩ := (among_mem cs (-x) _).1 h1
        have : i = j := by omega
        subst this
        exact .inr ⟨cs.getD i [], by simp [List.getD, hi], hm, by simpa using h2⟩
    · rintro (h | ⟨c, hc, h1, h2⟩)
      · exact .inl h
      · have hj : j < cs.length := by
          by_cases hj : j < cs.length
          · exact hj
          · rw [List.getElem?_eq_none (by omega)] at hc; cases hc
        have e : cs.getD j [] = c := by simp [List.getD, hc]
        exact .inr ⟨(among_mem _ _ _).2 ⟨j, rfl, hj, by rw [e]; exact h1⟩, by rw [Int.toNat_natCast, e]; exact h2⟩
  · rw [hb]
    congr 1
    rw [Bool.eq_iff_iff, List.any_eq_true, List.any_eq_true]
    constructor
    · rintro ⟨k, hk, h2⟩
      obtain ⟨i, rfl, hi, hm⟩ := (among_mem cs (-x) _).1 hk
      rw [Int.toNat_natCast] at h2
      exact ⟨cs.getD i [], by simp [List.getD, hi], by rw [decide_eq_true hm]; simpa using h2⟩
    · rintro ⟨c, hc, h2⟩
      obtain ⟨i, hi, rfl⟩ := List.mem_iff_getElem.1 hc
      rw [Bool.and_eq_true, decide_eq_true_eq, decide_eq_true_eq] at h2
      have e : cs.getD i [] = cs[i] := by simp [List.getD, hi]
      exact ⟨(i : Int), (among_mem _ _ _).2 ⟨i, rfl, hi, by rw [e]; exact h2.1⟩, by rw [Int.toNat_natCast, e, decide_eq_true_eq]; exact h2.2⟩
end Go.Proofs.Ytapaoccpbcjgeaa

/- cnf: a walk: a literal behind the others; what a walk is between its steps. -/
namespace Go.Proofs.Ytapaoccpbcjgeaa
open Go.RowKit Go.BigFrame
open Cnf (at_ Heaped litB leftL heldB)

theorem WSt.row_app {p : WPar} {w w3 : World} {S lf : List Int} {hf sf : List Bool} {b : Bool} {rv yv v' : Value} {rdy : List Int} (x : Int) (H : WSt p w S lf hf sf b rv yv rdy)
    (ho : w3.ownsRow p.base 3 1 v' (S ++ [x]).length (ints (S ++ [x]))) (hc : Ch w w3 (fun k => rv.ownBlock = some k)) (hm : Moved w rv v') : WSt p (w3.setCell ⟨p.g, 5, none⟩ v') (S ++ [x]) lf hf sf b v' yv rdy := by
  have t := H.tg
  have hz : (w3.setCell ⟨p.g, 5, none⟩ v').heap.size = w3.heap.size := by simp
  have no : ∀ k, p.tag k ≠ 0 → ¬ (rv.ownBlock = some k) := fun k h0 e => h0 (H.rt k e)
  have hv : ∀ k, v'.ownBlock = some k → p.tag k = 0 := fun k hk => by
    rcases hm with e | ⟨q, e, hq⟩
    · exact H.rt k (by rw [← e]; exact hk)
    · rw [e] at hk; cases hk; exact H.fresh _ hq
  have hb := hc.heap H.blk (no _ (by omega))
  have hc2 : Ch w (w3.setCell ⟨p.g, 5, none⟩ v') (fun k => k = p.g ∨ rv.ownBlock = some k) := (hc.weak fun k _ h => .inr h).setCell (p := ⟨p.g, 5, none⟩) (.inl rfl) _
  have no2 : ∀ k, p.tag k ≠ 0 → p.tag k ≠ 1 → ¬ (k = p.g ∨ rv.ownBlock = some k) := by
    rintro k h0 h1 (e | e)
    · rw [e] at h1; omega
    · exact no k h0 e
  refine ⟨t, ⟨H.lo.1, H.lo.2.1, H.lo.2.2.1, H.lo.2.2.2.1, by rw [hz]; exact Nat.le_trans H.lo.2.2.2.2 hc.size⟩, fun k hk => H.fresh k (by rw [hz] at hk; exact Nat.le_trans hc.size hk), blk_set hb 5 _, hc2.heap H.left (no2 _ (by omega) (by omega)), hc2.heap H.holds (no2 _ (by omega) (by omega)), hc2.heap H.set (no2 _ (by omega) (by omega)),
    ownsRow_setCell_other ho (a := ⟨p.g, 5, none⟩) ?_ v', hc2.own H.rown ?_, H.heap, WSt.cl_ch H.cl hc2 (fun k _ hk => no2 k (by omega) (by omega)), WSt.cl_ch H.am hc2 (fun k _ hk => no2 k (by omega) (by omega)), hv, H.yt, ?_, H.ll, H.lh, H.ls⟩
  · intro e; have := hv _ e; rw [t.1] at this; cases this
  · rintro k hk (e | e)
    · have := H.yt k hk; rw [e] at this; omega
    · exact H.ry k e hk
  · intro k hk e
    rcases hm with e1 | ⟨q, e1, hq⟩
    · exact H.ry k (by rw [← e1]; exact hk) e
    · rw [e1] at hk; cases hk
      have := (H.rown.lt _ e).2; omega
/-- What a walk's fixed parts say. -/
structure Coh (p : WPar) (cs : List (List Int)) (v : Int) : Prop where
  v0 : 0 ≤ v
  v1 : v ≤ 100000
  n : p.n = cs.length
  V : p.V = (2 * v + 2).toNat
  aml : p.ams.length = p.V
  ams : ∀ x, litB v x = true → p.ams.getD (idx x) [] = amongL cs x
  dsl : p.ds.length = cs.length
  ds : ∀ i, i < cs.length → ∀ x, x ∈ p.ds.getD i [] ↔ x ∈ cs.getD i []
  lits : ∀ i, i < cs.length → ∀ x ∈ cs.getD i [], litB v x = true
  small : cs.length ≤ 2000000
  lens : ∀ i, i < cs.length → (cs.getD i []).length ≤ 2000000
theorem left_le' (c S : List Int) : (leftL c S).length ≤ c.length := left_le c S
def SetAt (v : Int) (sf : List Bool) (S : List Int) : Prop := ∀ x, litB v x = true → sf.getD (idx x) false = decide (x ∈ S)
theorem SetAt.add {v : Int} {sf : List Bool} {S : List Int} (h : SetAt v sf S) (x : Int) (hs : sf.length = (2 * v + 2).toNat) : SetAt v (sf.set (idx x) true) (S ++ [x]) := by
  intro y hy
  rw [getD_set _ _ _ _ _ (by rw [hs]; exact idx_lt hy)]
  by_cases e : idx x = idx y
  · rw [if_pos e, idx_inj e]; simp
  · rw [if_neg e, h y hy, decide_eq_decide, List.mem_append, List.mem_singleton]
    exact ⟨.inl, fun h => h.resolve_right fun e2 => e (by rw [e2])⟩
theorem lit_neg {v x : Int} (h : litB v x = true) : litB v (-x) = true := by
  unfold litB at *
  rw [decide_eq_true_eq] at *
  omega
/-- A walk between its steps: S is set, in order. -/
def WalkAt (p : WPar) (cs : List (List Int)) (v : Int) (w : World) (S rdy : List Int) (b : Bool) (K : Int) : Prop :=
  (∃ sf rv yv, WSt p w S (lefts cs S) (helds cs S) sf b rv yv rdy ∧ SetAt v sf S) ∧ Ready cs S rdy b ∧ (rdy.length : Int) + (lefts cs S).sum ≤ K
/-- The same ahead of x being added: clauses that have x need not be ready. -/
def WalkX (p : WPar) (cs : List (List Int)) (v : Int) (w : World) (S rdy : List Int) (b : Bool) (K x : Int) : Prop :=
  (∃ sf rv yv, WSt p w S (lefts cs S) (helds cs S) sf b rv yv rdy ∧ SetAt v sf S) ∧ ReadyX cs S rdy b x ∧ (rdy.length : Int) + (lefts cs S).sum ≤ K
theorem WalkX.of {p : WPar} {cs : List (List Int)} {v : Int} {w : World} {S rdy : List Int} {b : Bool} {K : Int} (h : WalkAt p cs v w S rdy b K) (x : Int) : WalkX p cs v w S rdy b K x := ⟨h.1, ReadyX.of h.2.1 x, h.2.2⟩
theorem lefts_nn (cs : List (List Int)) (S : List Int) : 0 ≤ (lefts cs S).sum := by
  unfold lefts
  induction cs with
  | nil => simp
  | cons c cs ih => simp at ih ⊢; omega
theorem WSt.drew {p : WPar} {w : World} {S lf : List Int} {hf sf : List Bool} {b : Bool} {rv yv : Value} {rdy : List Int} (H : WSt p w S lf hf sf b rv yv rdy) : WSt p w.drew S lf hf sf b rv yv rdy := H.drewN 1
end Go.Proofs.Ytapaoccpbcjgeaa
