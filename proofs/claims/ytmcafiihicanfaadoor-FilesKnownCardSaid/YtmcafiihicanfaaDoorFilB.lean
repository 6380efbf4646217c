/- files: the iterator over all nodes: its contract. -/
import Derived.Test.YtmcafiihicanfaaDoorFilA
import Derived.Test.YtmcafiihicanfaaDoorRgP
import Derived.Test.YtmcafiihicanfaaDoorFmA
import Derived.RangeFuncNested
import Derived.RangeFuncBound
import Derived.RangeFuncCalls
import Derived.RangeFuncLeaves
import Derived.Shelf.Abstract
import Derived.Shelf.RegionOpen
import Derived.WalkKit
import Derived.OwnWalkIn
import Derived.TacticsInMore
import Derived.LoopNIn
import Derived.LoopIn
set_option linter.unusedVariables false
set_option linter.unusedSimpArgs false
namespace Go.Proofs.YtmcafiihicanfaaDoor
open Go Go.RowKit Go.BigFrame
open Fil (Es Nd Sp)
attribute [local go_sem] Oper.semAt_some

/-- A node, at an address, as it comes. -/
structure SpA where
  dep : Nat
  nm : ByteArray
  p : Addr
  n : Nd
def SpA.sp (x : SpA) : Sp := ⟨x.dep, x.nm, x.n⟩
/-- A node's cells. -/
def NdC (w : World) (B : Nat) (p : Addr) (n : Nd) : Prop :=
  w.cell? p = some (.int .u8 (n.k : Int)) ∧ w.cell? (p.add 1) = some (.string n.d) ∧ (∃ ev, w.cell? (p.add 2) = some ev ∧ EsAt w B ev n.es) ∧ n.d.size ≤ maxLen ∧ n.k < 256
/-- What lay below B, and the root's box, lie as they lay. -/
structure NkW (B bn : Nat) (W W' : World) : Prop where
  below : Below B W W'
  box : W'.heap[bn]? = W.heap[bn]?
theorem NkW.refl (B bn : Nat) (W : World) : NkW B bn W W := ⟨Below.refl _ _, rfl⟩
theorem NkW.trans {B bn : Nat} {X Y Z : World} (h : NkW B bn X Y) (k : NkW B bn Y Z) : NkW B bn X Z := ⟨h.below.trans k.below, k.box.trans h.box⟩
theorem NkW.of_below {B bn : Nat} {w W : World} (h : Below w.heap.size w W) (hB : B ≤ w.heap.size) (hb : bn < w.heap.size) : NkW B bn w W := ⟨h.mono hB, h.block bn hb⟩
theorem NkW.grown {B bn : Nat} {w W W' : World} {row : Option Nat} (h : NkW B bn w W) (hB : B ≤ w.heap.size) (hb : bn < w.heap.size) (hg : W.grownBy W' row) (hr : ∀ k, row = some k → w.heap.size ≤ k) : NkW B bn w W' :=
  ⟨h.below.grown hg (Nat.le_trans hB h.below.size) (fun k e => by have := hr k e; omega), (hg.block bn (Nat.lt_of_lt_of_le hb h.below.size) fun e => by have := hr bn e.symm; omega).trans h.box⟩
theorem NkW.cell {B bn : Nat} {W W' : World} (h : NkW B bn W W') {p : Addr} (hp : p.block < B ∨ p.block = bn) : W'.cell? p = W.cell? p := by
  rcases hp with hp | hp
  · exact h.below.cell hp
  · unfold World.cell?; rw [hp, h.box]
theorem NkW.keep {B bn : Nat} {W W' : World} (h : NkW B bn W W') {p : Addr} {n : Nd} (hp : p.block < B ∨ p.block = bn) (hn : NdC W B p n) : NdC W' B p n := by
  obtain ⟨h1, h2, ⟨ev, h3, h4⟩, h5⟩ := hn
  exact ⟨(h.cell hp).trans h1, (h.cell (by rw [addB]; exact hp)).trans h2, ⟨ev, (h.cell (by rw [addB]; exact hp)).trans h3, h4.keep h.below⟩, h5⟩
/-- What a round keeps, for the iterator: rows of rows of entries too. -/
structure KpN (B bn : Nat) (W W' : World) : Prop where
  nk : NkW B bn W W'
  way : ∀ (k : Nat) (cs : Array Value), W.heap[k]? = some (Obj.cells cs 24 (0, 0)) → W'.heap[k]? = some (Obj.cells cs 24 (0, 0))
theorem KpN.refl (B bn : Nat) (W : World) : KpN B bn W W := ⟨NkW.refl _ _ _, fun _ _ h => h⟩
theorem KpN.trans {B bn : Nat} {X Y Z : World} (h : KpN B bn X Y) (k : KpN B bn Y Z) : KpN B bn X Z := ⟨h.nk.trans k.nk, fun i cs hi => k.way i cs (h.way i cs hi)⟩
theorem KpN.own {B bn : Nat} {W W' : World} (h : KpN B bn W W') {base n : Nat} {v : Value} {xs : List Value} (ho : W.ownsRow base 24 1 v n xs) : W'.ownsRow base 24 1 v n xs := by
  obtain ⟨hl, h0 | ⟨g, cap, cur, e, h1, h2, h3⟩⟩ := ho
  · exact ⟨hl, .inl h0⟩
  · exact ⟨hl, .inr ⟨g, cap, cur, e, h1, h.way _ _ h2, h3⟩⟩
/-- The nodes that come. -/
abbrev NdX (w : World) (B bn : Nat) := { x : SpA // (x.p.block < B ∨ x.p.block = bn) ∧ NdC w B x.p x.n ∧ x.nm.size ≤ maxLen }
def itE (o : Obj) : Bool := match o with
  | .cells _ T _ => T == 24
  | .map .. => true
  | .mapIter .. => true
  | .stringIter .. => true
  | _ => false
/-- What is left to come, of a stack of rows (the innermost first). -/
def remS : List Es → List Sp
  | [] => []
  | e :: l => e.flat (l.length + 1) ++ remS l
def stackM : List Es → Nat
  | [] => 0
  | e :: l => 2 * e.count + 1 + stackM l
/-- The stack in memory: the innermost row is the last one. -/
def StackAt (w : World) (B : Nat) : List Value → List Es → Prop
  | [], [] => True
  | u :: vs, e :: l => EsAt w B u e ∧ StackAt w B vs l
  | _, _ => False
theorem StackAt.len {w : World} {B : Nat} : ∀ {vs : List Value} {l : List Es}, StackAt w B vs l → vs.length = l.length
  | [], [], _ => rfl
  | _ :: vs, _ :: l, h => by simp [StackAt.len h.2]
  | [], _ :: _, h => h.elim
  | _ :: _, [], h => h.elim
/-- The least number of which something holds. -/
theorem least_ex {p : Nat → Prop} (h : ∃ m, p m) : ∃ m, p m ∧ ∀ k, k < m → ¬ p k := by
  obtain ⟨m, hm⟩ := h
  induction m using Nat.strongRecOn with
  | ind m ih =>
    by_cases hk : ∃ k, k < m ∧ p k
    · obtain ⟨k, h1, h2⟩ := hk
      exact ih k h1 h2
    · exact ⟨m, hm, fun k h1 h2 => hk ⟨k, h1, h2⟩⟩
open Classical in
noncomputable def leastN (p : Nat → Prop) : Nat := if h : ∃ m, p m then Classical.choose (least_ex h) else 0
theorem least_spec {p : Nat → Prop} (h : ∃ m, p m) : p (leastN p) := by
  unfold leastN
  rw [dif_pos h]
  exact (Classical.choose_spec (least_ex h)).1
theorem least_le {p : Nat → Prop} {m : Nat} (h : p m) : leastN p ≤ m := by
  unfold leastN
  rw [dif_pos ⟨m, h⟩]
  exact Nat.le_of_not_lt fun hlt => (Classical.choose_spec (least_ex ⟨m, h⟩)).2 m hlt h
/-- Between two rounds of the iterator. -/
def WayRel (w : World) (B bn base : Nat) (nd : Nd) (J : List (NdX w B bn) → World → Prop) (m : Nat) (v : Value) (wr : World) : Prop :=
  ∃ (pre : List (NdX w B bn)) (st : List Es) (vs : List Value), m = stackM st ∧ pre.map (·.1.sp) ++ remS st = nd.flat ∧ st.length ≤ pre.length ∧ wr.ownsRow base 24 1 v vs.length vs.reverse ∧ StackAt w B vs st ∧ NkW B bn w wr ∧ base ≤ wr.heap.size ∧ J pre wr
theorem own_form {w : World} {base n sz : Nat} {e : TypeId} {v : Value} {xs : List Value} (h : w.ownsRow base e sz v n xs) : ∃ A c, v = .slice A n c := by
  obtain ⟨hl, ⟨rfl, rfl⟩ | ⟨g, cap, cur, rfl, _⟩⟩ := h
  · exact ⟨_, _, rfl⟩
  · exact ⟨_, _, rfl⟩
/-- A row of the call's own with a last cell. -/
theorem own_last {w : World} {base k : Nat} {e : TypeId} {v u : Value} {xs : List Value} (h : w.ownsRow base e 1 v (k + 1) (xs ++ [u])) (hl : xs.length = k) :
    ∃ g cap, v = .slice (some ⟨g, 0, none⟩) (k + 1) cap ∧ base ≤ g ∧ g < w.heap.size ∧ k + 1 ≤ cap ∧ cap ≤ maxLen ∧ w.cell? ⟨g, k, none⟩ = some u ∧ w.frozen? ⟨g, k, none⟩ = false ∧
      (∃ cs, w.heap[g]? = some (.cells cs e (0, 0))) ∧ w.ownsRow base e 1 (.slice (some ⟨g, 0, none⟩) k cap) k xs ∧ ∀ u', (w.setCell ⟨g, k, none⟩ u').ownsRow base e 1 (.slice (some ⟨g, 0, none⟩) (k + 1) cap) (k + 1) (xs ++ [u']) := by
  obtain ⟨h0, ⟨_, h1⟩ | ⟨g, cap, cur, rfl, h1, h2, h3, h4, h5, h6⟩⟩ := h
  · omega
  have hk : k < cur.size := by omega
  have hu : cur[k]? = some u := by
    have : (cur.toList.take ((k + 1) * 1))[k]? = some u := by rw [h6, List.getElem?_append_right (by omega)]; simp [hl]
    rw [List.getElem?_take, if_pos (by omega)] at this
    simpa using this
  refine ⟨g, cap, rfl, h1, block_lt h2, h3, h4, by rw [cell_of_row _ _ _ _ _ _ h2]; exact hu, frozen_of_row _ _ _ _ _ h2, ⟨_, h2⟩, ⟨by omega, .inr ⟨g, cap, cur, rfl, h1, h2, by omega, h4, h5, ?_⟩⟩, fun u' => ⟨by simp; omega, .inr ⟨g, cap, _, rfl, h1, blk_set h2 k u', h3, h4, by rw [Array.size_setIfInBounds]; exact h5, ?_⟩⟩⟩
  · have := congrArg (List.take k) h6
    rw [List.take_take] at this
    rw [show k * 1 = min k ((k + 1) * 1) by omega, this]
    simp [← hl]
  · rw [Array.toList_setIfInBounds]
    apply List.ext_getElem?
    intro j
    rw [List.getElem?_take]
    have hj := congrArg (fun l => l[j]?) h6
    simp only [List.getElem?_take] at hj
    by_cases hjk : j < (k + 1) * 1
    · rw [if_pos hjk] at hj ⊢
      by_cases e : j = k
      · subst e
        rw [List.getElem?_set_self (by simpa using hk), List.getElem?_append_right (by omega)]
        simp [hl]
      · rw [List.getElem?_set_ne (Ne.symm e), hj, List.getElem?_append_left (by omega), List.getElem?_append_left (by omega)]
    · rw [if_neg hjk, List.getElem?_eq_none (by simp; omega)]
theorem own_blk {w : World} {base k cap g : Nat} {e : TypeId} {xs : List Value} (h : w.ownsRow base e 1 (.slice (some ⟨g, 0, none⟩) (k + 1) cap) (k + 1) xs) : ∃ cs, w.heap[g]? = some (.cells cs e (0, 0)) := by
  obtain ⟨h0, ⟨h1, _⟩ | ⟨g2, cap2, cur, e1, h1, h2, _⟩⟩ := h
  · cases h1
  · cases e1; exact ⟨_, h2⟩
theorem infoEs : (Tryd.prog.info? 24).map (fun i => (i.zero, i.size, i.bytes)) = some (some (.slice none 0 0), 1, 24) := by kernel_rfl
theorem grown_cell (W : World) (g i : Nat) (v : Value) : W.grownBy (W.setCell ⟨g, i, none⟩ v) (some g) :=
  ⟨rfl, rfl, rfl, (KeepsWalks.setCell W _ v).size, fun k _ hk => Below.heap_setCell _ _ _ k (fun e => hk (by rw [e]))⟩
end Go.Proofs.YtmcafiihicanfaaDoor
