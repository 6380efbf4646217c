/- cnf: the rows of the law CnfKnown. -/
import Derived.Test.YtapaoccpbcjgeaaCnmT
import Derived.Deep.DeepCutAuto
namespace Go.Proofs.Ytapaoccpbcjgeaa
open Go.RowKit Go.BigFrame
open Cnf (litB countN leftL heldB firstsI unitsF bothB IsNorm trueB holdB absI)

def clsL : List (List Int) := [[], [1], [-1], [1, 2], [-1, 3], [-3, -2], [2, 2], [1, -1], [3, 2, 1], [-2, -2, -3], [0], [4], [-4]]
def litL : List (List Int) := [[], [1], [-1], [1, 2], [2, 2, -3], [1, -1], [0], [4]]
/-- Rows that are built one behind the other. -/
def chain (T : TypeId) : World → List (List Int) → World
  | W, [] => W
  | W, r :: rs => chain T (W.alloc (.cells (ints r).toArray T)) rs
theorem chain_spec (T : TypeId) : ∀ (rs : List (List Int)) (W : World), (rs.all fun r => decide (r.length ≤ 4000000)) = true → Below W.heap.size W (chain T W rs) ∧ (chain T W rs).heap.size = W.heap.size + rs.length ∧ ∀ (k : Nat) (r : List Int), rs[k]? = some r → IRow (chain T W rs) AllB (.slice (some ⟨W.heap.size + k, 0, none⟩) r.length r.length) r
  | [], W, _ => ⟨Below.refl _ _, rfl, fun k r h => by simp at h⟩
  | r :: rs, W, hn => by
    rw [List.all_cons, Bool.and_eq_true, decide_eq_true_eq] at hn
    obtain ⟨h1, h2, h3⟩ := chain_spec T rs (W.alloc (.cells (ints r).toArray T)) hn.2
    have hz : (W.alloc (.cells (ints r).toArray T)).heap.size = W.heap.size + 1 := by simp
    have hb : Below W.heap.size W (W.alloc (.cells (ints r).toArray T)) := (Below.refl _ _).alloc (Nat.le_refl _) _
    rw [hz] at h1 h2 h3
    refine ⟨hb.trans (h1.mono (by omega)), by rw [chain, h2]; simp; omega, fun k x hx => ?_⟩
    cases k with
    | zero =>
      obtain rfl : r = x := by simpa using hx
      exact RdS.below (irow_new W (ints r).toArray T r (by simp) hn.1) (by rw [hz]; exact h1)
    | succ k =>
      have := h3 k x (by simpa using hx)
      rwa [show W.heap.size + 1 + k = W.heap.size + (k + 1) by omega] at this
theorem cls_rows (W : World) : ∃ w1, w1 = (((((((((((((W.alloc (.cells #[.int .i64 1] 3)).alloc (.cells #[.int .i64 (-1)] 3)).alloc (.cells #[.int .i64 1, .int .i64 2] 3)).alloc (.cells #[.int .i64 (-1), .int .i64 3] 3)).alloc (.cells #[.int .i64 (-3), .int .i64 (-2)] 3)).alloc (.cells #[.int .i64 2, .int .i64 2] 3)).alloc (.cells #[.int .i64 1, .int .i64 (-1)] 3)).alloc (.cells #[.int .i64 3, .int .i64 2, .int .i64 1] 3)).alloc (.cells #[.int .i64 (-2), .int .i64 (-2), .int .i64 (-3)] 3)).alloc (.cells #[.int .i64 0] 3)).alloc (.cells #[.int .i64 4] 3)).alloc (.cells #[.int .i64 (-4)] 3)).alloc (.cells #[.slice none 0 0, .slice (some ⟨W.heap.size, 0, none⟩) 1 1, .slice (some ⟨W.heap.size + 1, 0, none⟩) 1 1, .slice (some ⟨W.heap.size + 1 + 1, 0, none⟩) 2 2, .slice (some ⟨W.heap.size + 1 + 1 + 1, 0, none⟩) 2 2, .slice (some ⟨W.heap.size + 1 + 1 + 1 + 1, 0, none⟩) 2 2, .slice (some ⟨W.heap.size + 1 + 1 + 1 + 1 + 1, 0, none⟩) 2 2, .slice (some ⟨W.heap.size + 1 + 1 + 1 + 1 + 1 + 1, 0, none⟩) 2 2, .slice (some ⟨W.heap.size + 1 + 1 + 1 + 1 + 1 + 1 + 1, 0, none⟩) 3 3, .slice (some ⟨W.heap.size + 1 + 1 + 1 + 1 + 1 + 1 + 1 + 1, 0, none⟩) 3 3, .slice (some ⟨W.heap.size + 1 + 1 + 1 + 1 + 1 + 1 + 1 + 1 + 1, 0, none⟩) 1 1, .slice (some ⟨W.heap.size + 1 + 1 + 1 + 1 + 1 + 1 + 1 + 1 + 1 + 1, 0, none⟩) 1 1, .slice (some ⟨W.heap.size + 1 + 1 + 1 + 1 + 1 + 1 + 1 + 1 + 1 + 1 + 1, 0, none⟩) 1 1] 35)) ∧ RowsAt w1 (.slice (some ⟨W.heap.size + 1 + 1 + 1 + 1 + 1 + 1 + 1 + 1 + 1 + 1 + 1 + 1, 0, none⟩) 13 13) clsL ∧ Below W.heap.size W w1 ∧ w1.heap.size = W.heap.size + 13 := by
  obtain ⟨hb, hz, hr⟩ := chain_spec 3 [[1], [-1], [1, 2], [-1, 3], [-3, -2], [2, 2], [1, -1], [3, 2, 1], [-2, -2, -3], [0], [4], [-4]] W (by decide)
  have h4 := rows_new (chain 3 W [[1], [-1], [1, 2], [-1, 3], [-3, -2], [2, 2], [1, -1], [3, 2, 1], [-2, -2, -3], [0], [4], [-4]]) #[.slice none 0 0, .slice (some ⟨W.heap.size, 0, none⟩) 1 1, .slice (some ⟨W.heap.size + 1, 0, none⟩) 1 1, .slice (some ⟨W.heap.size + 1 + 1, 0, none⟩) 2 2, .slice (some ⟨W.heap.size + 1 + 1 + 1, 0, none⟩) 2 2, .slice (some ⟨W.heap.size + 1 + 1 + 1 + 1, 0, none⟩) 2 2, .slice (some ⟨W.heap.size + 1 + 1 + 1 + 1 + 1, 0, none⟩) 2 2, .slice (some ⟨W.heap.size + 1 + 1 + 1 + 1 + 1 + 1, 0, none⟩) 2 2, .slice (some ⟨W.heap.size + 1 + 1 + 1 + 1 + 1 + 1 + 1, 0, none⟩) 3 3, .slice (some ⟨W.heap.size + 1 + 1 + 1 + 1 + 1 + 1 + 1 + 1, 0, none⟩) 3 3, .slice (some ⟨W.heap.size + 1 + 1 + 1 + 1 + 1 + 1 + 1 + 1 + 1, 0, none⟩) 1 1, .slice (some ⟨W.heap.size + 1 + 1 + 1 + 1 + 1 + 1 + 1 + 1 + 1 + 1, 0, none⟩) 1 1, .slice (some ⟨W.heap.size + 1 + 1 + 1 + 1 + 1 + 1 + 1 + 1 + 1 + 1 + 1, 0, none⟩) 1 1] 35 clsL rfl (by decide) (fun k u x hu hx => by
    match k with
    | 0 => cases hu; cases hx; exact RdS.nil _ AllB
    | 1 => cases hu; cases hx; exact hr 0 [1] rfl
    | 2 => cases hu; cases hx; exact hr 1 [-1] rfl
    | 3 => cases hu; cases hx; exact hr 2 [1, 2] rfl
    | 4 => cases hu; cases hx; exact hr 3 [-1, 3] rfl
    | 5 => cases hu; cases hx; exact hr 4 [-3, -2] rfl
    | 6 => cases hu; cases hx; exact hr 5 [2, 2] rfl
    | 7 => cases hu; cases hx; exact hr 6 [1, -1] rfl
    | 8 => cases hu; cases hx; exact hr 7 [3, 2, 1] rfl
    | 9 => cases hu; cases hx; exact hr 8 [-2, -2, -3] rfl
    | 10 => cases hu; cases hx; exact hr 9 [0] rfl
    | 11 => cases hu; cases hx; exact hr 10 [4] rfl
    | 12 => cases hu; cases hx; exact hr 11 [-4] rfl
    | k + 13 => cases hx)
  rw [hz] at h4
  exact ⟨_, rfl, h4, hb.alloc hb.size _, by simp⟩
theorem lit_rows (W : World) : ∃ w1, w1 = ((((((((W.alloc (.cells #[.int .i64 1] 3)).alloc (.cells #[.int .i64 (-1)] 3)).alloc (.cells #[.int .i64 1, .int .i64 2] 3)).alloc (.cells #[.int .i64 2, .int .i64 2, .int .i64 (-3)] 3)).alloc (.cells #[.int .i64 1, .int .i64 (-1)] 3)).alloc (.cells #[.int .i64 0] 3)).alloc (.cells #[.int .i64 4] 3)).alloc (.cells #[.slice none 0 0, .slice (some ⟨W.heap.size, 0, none⟩) 1 1, .slice (some ⟨W.heap.size + 1, 0, none⟩) 1 1, .slice (some ⟨W.heap.size + 1 + 1, 0, none⟩) 2 2, .slice (some ⟨W.heap.size + 1 + 1 + 1, 0, none⟩) 3 3, .slice (some ⟨W.heap.size + 1 + 1 + 1 + 1, 0, none⟩) 2 2, .slice (some ⟨W.heap.size + 1 + 1 + 1 + 1 + 1, 0, none⟩) 1 1, .slice (some ⟨W.heap.size + 1 + 1 + 1 + 1 + 1 + 1, 0, none⟩) 1 1] 35)) ∧ RowsAt w1 (.slice (some ⟨W.heap.size + 1 + 1 + 1 + 1 + 1 + 1 + 1, 0, none⟩) 8 8) litL ∧ Below W.heap.size W w1 ∧ w1.heap.size = W.heap.size + 8 := by
  obtain ⟨hb, hz, hr⟩ := chain_spec 3 [[1], [-1], [1, 2], [2, 2, -3], [1, -1], [0], [4]] W (by decide)
  have h4 := rows_new (chain 3 W [[1], [-1], [1, 2], [2, 2, -3], [1, -1], [0], [4]]) #[.slice none 0 0, .slice (some ⟨W.heap.size, 0, none⟩) 1 1, .slice (some ⟨W.heap.size + 1, 0, none⟩) 1 1, .slice (some ⟨W.heap.size + 1 + 1, 0, none⟩) 2 2, .slice (some ⟨W.heap.size + 1 + 1 + 1, 0, none⟩) 3 3, .slice (some ⟨W.heap.size + 1 + 1 + 1 + 1, 0, none⟩) 2 2, .slice (some ⟨W.heap.size + 1 + 1 + 1 + 1 + 1, 0, none⟩) 1 1, .slice (some ⟨W.heap.size + 1 + 1 + 1 + 1 + 1 + 1, 0, none⟩) 1 1] 35 litL rfl (by decide) (fun k u x hu hx => by
    match k with
    | 0 => cases hu; cases hx; exact RdS.nil _ AllB
    | 1 => cases hu; cases hx; exact hr 0 [1] rfl
    | 2 => cases hu; cases hx; exact hr 1 [-1] rfl
    | 3 => cases hu; cases hx; exact hr 2 [1, 2] rfl
    | 4 => cases hu; cases hx; exact hr 3 [2, 2, -3] rfl
    | 5 => cases hu; cases hx; exact hr 4 [1, -1] rfl
    | 6 => cases hu; cases hx; exact hr 5 [0] rfl
    | 7 => cases hu; cases hx; exact hr 6 [4] rfl
    | k + 8 => cases hx)
  rw [hz] at h4
  exact ⟨_, rfl, h4, hb.alloc hb.size _, by simp⟩
end Go.Proofs.Ytapaoccpbcjgeaa

/- cnf: CnfKnown's walk. -/
namespace Go.Proofs.Ytapaoccpbcjgeaa
open Go.RowKit Go.BigFrame
open Cnf (litB countN leftL heldB firstsI unitsF bothB IsNorm trueB holdB absI)

theorem cls_cell {w0 : Nat} {w : World} (h : RowsAt w (.slice (some ⟨w0, 0, none⟩) 13 13) clsL) (k : Nat) (hk : k < 13) : ∃ A n cap, w.cell? ⟨w0, k, none⟩ = some (.slice A n cap) ∧ IRow w AllB (.slice A n cap) (clsL.getD k default) := by
  obtain ⟨ad, u, had, hcu, hu⟩ := OutS.get h k hk
  obtain rfl : ad = ⟨w0, 0, none⟩ := by simpa using had.symm
  obtain ⟨A, cap, rfl, _⟩ := RdS.form hu
  exact ⟨A, _, cap, cell_lit hcu, hu⟩
theorem lit_cell {w0 : Nat} {w : World} (h : RowsAt w (.slice (some ⟨w0, 0, none⟩) 8 8) litL) (k : Nat) (hk : k < 8) : ∃ A n cap, w.cell? ⟨w0, k, none⟩ = some (.slice A n cap) ∧ IRow w AllB (.slice A n cap) (litL.getD k default) := by
  obtain ⟨ad, u, had, hcu, hu⟩ := OutS.get h k hk
  obtain rfl : ad = ⟨w0, 0, none⟩ := by simpa using had.symm
  obtain ⟨A, cap, rfl, _⟩ := RdS.form hu
  exact ⟨A, _, cap, cell_lit hcu, hu⟩
/-- A formula of three variables in a block of its own. -/
def FBox (wx : World) (f : Value) : Prop := ∃ (g g2 : Nat) (cs : List (List Int)), f = .pointer (some ⟨g, 0, none⟩) ∧ wx.heap[g]? = some (.cells #[.int .i64 3, .slice (some ⟨g2, 0, none⟩) 3 3] 24 (0, 0)) ∧ RowsAt wx (.slice (some ⟨g2, 0, none⟩) 3 3) cs
theorem below_new (w : World) (o : Obj) : Below w.heap.size w (w.alloc o) := (Below.refl _ _).alloc (Nat.le_refl _) _
theorem three_rows (W : World) (u1 u2 u3 : Value) (c1 c2 c3 : List Int) (h1 : IRow W AllB u1 c1) (h2 : IRow W AllB u2 c2) (h3 : IRow W AllB u3 c3) : RowsAt (W.alloc (.cells #[u1, u2, u3] 35)) (.slice (some ⟨W.heap.size, 0, none⟩) 3 3) [c1, c2, c3] :=
  rows_new W #[u1, u2, u3] 35 [c1, c2, c3] rfl (by simp) (fun k u x hu hx => by
    match k with
    | 0 => cases hu; cases hx; exact h1
    | 1 => cases hu; cases hx; exact h2
    | 2 => cases hu; cases hx; exact h3
    | k + 3 => cases hx)
theorem fbox_a (W : World) (u1 u2 u3 : Value) (c1 c2 c3 : List Int) (h1 : IRow W AllB u1 c1) (h2 : IRow W AllB u2 c2) (h3 : IRow W AllB u3 c3) :
    FBox ((W.alloc (.cells #[u1, u2, u3] 35)).alloc (.cells #[.int .i64 3, .slice (some ⟨W.heap.size, 0, none⟩) 3 3] 24)).drew (.pointer (some ⟨W.heap.size + 1, 0, none⟩)) := by
  have hr := three_rows W u1 u2 u3 c1 c2 c3 h1 h2 h3
  have hz : (W.alloc (.cells #[u1, u2, u3] 35)).heap.size = W.heap.size + 1 := by simp
  refine ⟨_, _, _, rfl, ?_, hr.below (below_new _ _).drew⟩
  have hn := heap_alloc_new (W.alloc (.cells #[u1, u2, u3] 35)) (.cells #[.int .i64 3, .slice (some ⟨W.heap.size, 0, none⟩) 3 3] 24)
  rw [hz] at hn
  exact ((Below.refl (W.heap.size + 2) _).drew.block (W.heap.size + 1) (by omega)).trans hn
theorem fbox_b (W : World) (u1 u2 u3 : Value) (c1 c2 c3 : List Int) (h1 : IRow W AllB u1 c1) (h2 : IRow W AllB u2 c2) (h3 : IRow W AllB u3 c3) :
    FBox ((W.alloc (.cells #[.int .i64 3, .slice (some ⟨W.heap.size + 1, 0, none⟩) 3 3] 24)).alloc (.cells #[u1, u2, u3] 35)).drew (.pointer (some ⟨W.heap.size, 0, none⟩)) := by
  have hz : (W.alloc (.cells #[.int .i64 3, .slice (some ⟨W.heap.size + 1, 0, none⟩) 3 3] 24)).heap.size = W.heap.size + 1 := by simp
  have hr := three_rows _ u1 u2 u3 c1 c2 c3 (h1.alloc (.cells #[.int .i64 3, .slice (some ⟨W.heap.size + 1, 0, none⟩) 3 3] 24)) (h2.alloc _) (h3.alloc _)
  rw [hz] at hr
  refine ⟨_, _, _, rfl, ?_, hr.below (Below.refl _ _).drew⟩
  have hn := heap_alloc_new W (.cells #[.int .i64 3, .slice (some ⟨W.heap.size + 1, 0, none⟩) 3 3] 24)
  have hb := (below_new (W.alloc (.cells #[.int .i64 3, .slice (some ⟨W.heap.size + 1, 0, none⟩) 3 3] 24)) (.cells #[u1, u2, u3] 35)).drew
  rw [hz] at hb
  exact (hb.block W.heap.size (by omega)).trans hn
def FCut (W : World) (B : Nat) (f : Value) (wx : World) : Prop := FBox wx f ∧ KeepW W B wx

def FIn (w : World) (g g2 : Nat) (cs : List (List Int)) : Prop := w.heap[g]? = some (.cells #[.int .i64 3, .slice (some ⟨g2, 0, none⟩) 3 3] 24 (0, 0)) ∧ RowsAt w (.slice (some ⟨g2, 0, none⟩) 3 3) cs
theorem FIn.keep {w5 wq : World} {g g2 : Nat} {cs : List (List Int)} (h : FIn w5 g g2 cs) (hk : KeepW w5 w5.heap.size wq) : FIn wq g g2 cs := ⟨(hk.1.block g (block_lt h.1)).trans h.1, h.2.below hk.1⟩
theorem FIn.cells {w : World} {g g2 : Nat} {cs : List (List Int)} (h : FIn w g g2 cs) : w.cell? ⟨g, 0, none⟩ = some (.int .i64 3) ∧ w.cell? ⟨g, 1, none⟩ = some (.slice (some ⟨g2, 0, none⟩) 3 3) := ⟨(cell_two h.1).1, (cell_two h.1).2.1⟩
def MCut (W : World) (mv : Value) (wx : World) : Prop := ∃ (gm : Nat) (b1 b2 b3 : Bool), mv = .slice (some ⟨gm, 0, none⟩) 3 3 ∧ BoolR wx AllB (.slice (some ⟨gm, 0, none⟩) 3 3) [b1, b2, b3] ∧ KeepW W W.heap.size wx
theorem mcut_new (W : World) (b1 b2 b3 : Bool) : MCut W (.slice (some ⟨W.heap.size, 0, none⟩) 3 3) (W.alloc (.cells #[.bool b1, .bool b2, .bool b3] 4)) :=
  ⟨_, b1, b2, b3, rfl, boolr_new W #[.bool b1, .bool b2, .bool b3] 4 [b1, b2, b3] rfl (by simp), (KeepW.start (Nat.le_refl _)).alloc _⟩
theorem boolr_two {w : World} {gm : Nat} {b1 b2 b3 : Bool} (h : BoolR w AllB (.slice (some ⟨gm, 0, none⟩) 3 3) [b1, b2, b3]) : BoolR w AllB (.slice (some ⟨gm, 0, none⟩) 2 3) [b1, b2] := by
  obtain ⟨A', cap', e, h1, h2, h3, h4⟩ := h
  cases e
  refine ⟨_, 3, rfl, by simp, by unfold maxLen; omega, (fun h => by cases h), fun _ => ?_⟩
  obtain ⟨ad, e, hl, hs, hc⟩ := h4 (by simp)
  refine ⟨ad, e, hl, hs, fun j u hu => hc j u ?_⟩
  match j with
  | 0 => exact hu
  | 1 => exact hu
  | j + 2 => simp [bools] at hu

def numL : List Int := [-1, 0, 100000, 100001, 1099511627776]
theorem numL_bd : ∀ n, n < 5 → -1 ≤ numL.getD n 0 ∧ numL.getD n 0 ≤ 1099511627776 := by
  have h : (List.range 5).all (fun k => decide (-1 ≤ numL.getD k 0 ∧ numL.getD k 0 ≤ 1099511627776)) = true := by decide +kernel
  intro k hk
  exact of_decide_eq_true (List.all_eq_true.1 h k (List.mem_range.2 hk))
theorem nums_row (W : World) : ∃ w1, w1 = W.alloc (.cells #[.int .i64 (-1), .int .i64 0, .int .i64 100000, .int .i64 100001, .int .i64 1099511627776] 3) ∧ IRow w1 AllB (.slice (some ⟨W.heap.size, 0, none⟩) 5 5) numL ∧ Below W.heap.size W w1 ∧ w1.heap.size = W.heap.size + 1 :=
  ⟨_, rfl, irow_new W #[.int .i64 (-1), .int .i64 0, .int .i64 100000, .int .i64 100001, .int .i64 1099511627776] 3 numL rfl (by decide), below_new _ _, by simp⟩
theorem irow_nil (w : World) : IRow w AllB (.slice none 0 0) [] := RdS.nil w AllB
theorem row_one_new (W : World) (cs : Array Value) (l : List Int) (n : Nat) (hn : n = l.length) (h : cs.toList = ints l) (hl : l.length ≤ 4000000) : RowsAt ((W.alloc (.cells cs 3)).alloc (.cells #[.slice (some ⟨W.heap.size, 0, none⟩) n n] 35)) (.slice (some ⟨W.heap.size + 1, 0, none⟩) 1 1) [l] := by
  subst hn
  obtain ⟨w1, hw, hr, _⟩ := one_row (W.alloc (.cells cs 3)) _ l (irow_new W cs 3 l h hl)
  rw [hw] at hr
  simpa using hr
theorem check_large {L : List Int} (h : L.length = 1000001) : checkN 1 [L] = 160 := by
  unfold checkN
  rw [count_one, if_pos (by omega)]
theorem check_fits {L : List Int} (h : L.length = 1000000) (h1 : ∀ x ∈ L, x = 1) : checkN 1 [L] = 0 := by
  refine check_zero (by omega) (by omega) (by rw [count_one]; omega) ?_
  rw [ok_one, List.all_eq_true]
  intro x hx
  rw [h1 x hx]
  decide
theorem irow_tail {w : World} {g cap : Nat} {L : List Int} {n : Nat} (h : IRow w AllB (.slice (some ⟨g, 0, none⟩) (n + 1) (cap + 1)) L) (hL : L.length = n + 1) (hn : 0 < n) : IRow w AllB (.slice (some ⟨g, 1, none⟩) n cap) L.tail := by
  obtain ⟨A', cap', e, h1, h2, h3, h4⟩ := h
  simp only [Value.slice.injEq] at e
  obtain ⟨rfl, _, rfl⟩ := e
  obtain ⟨ad, e2, hl, hs, hc⟩ := h4 (by omega)
  simp only [Option.some.injEq] at e2
  subst e2
  have ht : L.tail.length = n := by rw [List.length_tail, hL]; rfl
  refine ⟨some ⟨g, 1, none⟩, cap, by rw [ht], by omega, by omega, (fun h => by cases h), fun _ => ⟨⟨g, 1, none⟩, rfl, hl, trivial, fun j u hu => ?_⟩⟩
  have h5 := hc (j + 1) u (by
    rw [← hu]
    cases L with
    | nil => simp at hL
    | cons x L => rfl)
  have e1 : (⟨g, 0, none⟩ : Addr).add 1 = ⟨g, 1, none⟩ := rfl
  rw [← e1, add_add, Nat.add_comm 1 j]
  exact h5
theorem row_at_new (W : World) (u : Value) (c : List Int) (h : IRow W AllB u c) : RowsAt (W.alloc (.cells #[u] 35)) (.slice (some ⟨W.heap.size, 0, none⟩) 1 1) [c] := by
  obtain ⟨w1, hw, hr, _⟩ := one_row W u c h
  rw [hw] at hr
  exact hr
def Ones (xs : List Value) (m : Nat) : Prop := xs.length = 1000001 ∧ ∀ j, j < m → xs[j]? = some (.int .i64 1)
theorem Ones.put {xs : List Value} {m : Nat} (h : Ones xs m) (hm : m < 1000001) : Ones (xs.set m (.int .i64 1)) (m + 1) := by
  refine ⟨by rw [List.length_set]; exact h.1, fun j hj => ?_⟩
  rw [List.getElem?_set]
  by_cases e : m = j
  · rw [if_pos e]
    by_cases hl : m < xs.length
    · rw [if_pos hl]
    · exact absurd (show m < xs.length by rw [h.1]; exact hm) hl
  · rw [if_neg e]
    exact h.2 j (by omega)
theorem Ones.ints {xs : List Value} (h : Ones xs 1000001) : ∃ L : List Int, L.length = 1000001 ∧ xs = ints L ∧ ∀ x ∈ L, x = 1 := by
  refine ⟨List.replicate xs.length 1, by rw [List.length_replicate]; exact h.1, ?_, fun x hx => List.eq_of_mem_replicate hx⟩
  apply List.ext_getElem?
  intro j
  unfold Proofs.Ytapaoccpbcjgeaa.ints
  rw [List.getElem?_map, List.getElem?_replicate]
  by_cases hj : j < xs.length
  · rw [if_pos hj, h.2 j (by rw [← h.1]; exact hj)]; rfl
  · have h9 : xs.length ≤ j := Nat.le_of_not_lt hj
    rw [if_neg hj, List.getElem?_eq_none h9]; rfl

set_option maxRecDepth 100000 in
set_option maxHeartbeats 8000000 in
theorem cnfKnown_walk (w : World) : Calls Try.prog 9 #[] w fun e w' => e = .returned (.bool true) ∧ Below w.heap.size w w' := by
  go_enter Try.func9, Try.ntmps9
  go_upto_region 2 with (fail)
  obtain ⟨w1, hw1, hr1, hb1, hz1⟩ := cls_rows w
  rw [← hw1]
  have HR1 := Lib.hid hr1
  have HB1 := Lib.hid hb1
  have hz : w.heap.size + 13 ≤ w1.heap.size := by omega
  clear hw1 hr1 hb1 hz1
  go_wp2
  go_loopw [2] (fun iv wr => ∃ k : Nat, k ≤ 13 ∧ iv = .int .i64 k ∧ Hid (KeepW w1 w1.heap.size wr)) (fun iv _ => 13 - (intOf iv).toNat)
  case atStart => exact ⟨0, by omega, rfl, Lib.hid (KeepW.start (Nat.le_refl _))⟩
  case round =>
    obtain ⟨i, hi, rfl, HB⟩ := hrel
    by_cases hlt : i < 13
    · have HRr := Lib.hid (HR1.out.below HB.out.1)
      obtain ⟨P0, n0, c0, hx0, hu0⟩ := cls_cell HRr.out i hlt
      have hi' : (i : Int) < 13 := by omega
      have HU := Lib.hid hu0
      clear hu0
      go_wp2_with fail
      refine (cnfNorm_walk _ _ wr HU.out).mono ?_
      rintro e w2 ⟨rfl, hb2⟩
      have HB2 := Lib.hid (HB.out.step hb2)
      clear hb2
      go_wp2
      go_loopw [3] (fun iv wq => ∃ k : Nat, k ≤ 13 ∧ iv = .int .i64 k ∧ Hid (KeepW w1 w1.heap.size wq)) (fun iv _ => 13 - (intOf iv).toNat)
      case atStart => exact ⟨0, by omega, rfl, HB2⟩
      case round =>
        clear HB2 hx0 HU HRr
        obtain ⟨k, hk, rfl, HQ⟩ := hrel
        by_cases hkt : k < 13
        · have HRq := Lib.hid (HR1.out.below HQ.out.1)
          obtain ⟨j, hj, hjt⟩ : ∃ j : Nat, j < 13 ∧ ((i : Int) + 3 * (k : Int)).tmod 13 = (j : Int) := ⟨(i + 3 * k) % 13, Nat.mod_lt _ (by decide), by rw [Int.tmod_eq_emod_of_nonneg (by omega)]; omega⟩
          obtain ⟨P1, n1, c1, hx1, hu1⟩ := cls_cell HRq.out i hlt
          obtain ⟨P2, n2, c2, hx2, hu2⟩ := cls_cell HRq.out k hkt
          obtain ⟨P3, n3, c3, hx3, hu3⟩ := cls_cell HRq.out j hj
          have HU1 := Lib.hid hu1
          have HU2 := Lib.hid hu2
          have HU3 := Lib.hid hu3
          clear hu1 hu2 hu3
          have hg : w.heap.size + 12 < wr.heap.size := by have := HQ.out.2; omega
          have HKK := Lib.hid (show ∀ w', KeepW wr wr.heap.size w' → (w'.cell? ⟨w.heap.size + 1 + 1 + 1 + 1 + 1 + 1 + 1 + 1 + 1 + 1 + 1 + 1, i, none⟩ = some (.slice P1 n1 c1) ∧ w'.cell? ⟨w.heap.size + 1 + 1 + 1 + 1 + 1 + 1 + 1 + 1 + 1 + 1 + 1 + 1, k, none⟩ = some (.slice P2 n2 c2) ∧ w'.cell? ⟨w.heap.size + 1 + 1 + 1 + 1 + 1 + 1 + 1 + 1 + 1 + 1 + 1 + 1, j, none⟩ = some (.slice P3 n3 c3)) ∧ KeepW wr wr.heap.size w' from fun w' h => ⟨⟨(h.1.cell (by simpa using hg)).trans hx1, (h.1.cell (by simpa using hg)).trans hx2, (h.1.cell (by simpa using hg)).trans hx3⟩, h⟩)
          have hk0 := KeepW.start (Nat.le_refl wr.heap.size)
          have s1 : IntKind.i64.wrap (3 * (k : Int)) = 3 * (k : Int) := IntWalk.i64_in _ (by omega)
          have s2 : IntKind.i64.wrap ((i : Int) + 3 * (k : Int)) = (i : Int) + 3 * (k : Int) := IntWalk.i64_in _ (by omega)
          have s3 : (0 : Int) ≤ (i : Int) := by omega
          have s4 : (i : Int) < 13 := by omega
          have s5 : (0 : Int) ≤ (k : Int) := by omega
          have s6 : (k : Int) < 13 := by omega
          have s7 : (0 : Int) ≤ (j : Int) := by omega
          have s8 : (j : Int) < 13 := by omega
          go_upto_region 10 with (fail)
          go_cut [4] (fun f wx => Hid (FCut wr wr.heap.size f wx))
          case first =>
            go_region_held3 (fun w' => (w'.cell? ⟨w.heap.size + 1 + 1 + 1 + 1 + 1 + 1 + 1 + 1 + 1 + 1 + 1 + 1, i, none⟩ = some (.slice P1 n1 c1) ∧ w'.cell? ⟨w.heap.size + 1 + 1 + 1 + 1 + 1 + 1 + 1 + 1 + 1 + 1 + 1 + 1, k, none⟩ = some (.slice P2 n2 c2) ∧ w'.cell? ⟨w.heap.size + 1 + 1 + 1 + 1 + 1 + 1 + 1 + 1 + 1 + 1 + 1 + 1, j, none⟩ = some (.slice P3 n3 c3)) ∧ KeepW wr wr.heap.size w') (first | exact HKK.out _ (by repeat (first | with_reducible assumption | with_reducible refine KeepW.drew ?_ | with_reducible refine KeepW.alloc ?_ _)) | go_keep) (fail)
            all_goals
              have hlast : KeepW wr wr.heap.size _ := (by assumption : _ ∧ KeepW wr wr.heap.size _).2
              have HL := Lib.hid hlast
              clear hlast
              go_wp2_with fail
              go_meet
              exact Lib.hid ⟨by first | exact fbox_a wr _ _ _ _ _ _ HU1.out HU2.out HU3.out | exact fbox_b wr _ _ _ _ _ _ HU1.out HU2.out HU3.out, HL.out⟩
          case rest =>
            obtain ⟨⟨g, g2, cs, rfl, hgf, hcs⟩, hkf⟩ := hcut.out
            have HKC := Lib.hid (HQ.out.step hkf.1)
            obtain ⟨w5, hw5, hr5, hb5, hz5⟩ := lit_rows wc
            have hf5 : FIn w5 g g2 cs := FIn.keep ⟨hgf, hcs⟩ ⟨hb5, by omega⟩
            have HF5 := Lib.hid hf5
            have HR5 := Lib.hid hr5
            have HK5 := Lib.hid (HKC.out.step hb5)
            clear hgf hcs hkf hcut HKC HKK HU1 HU2 HU3 hk0 hx1 hx2 hx3 HRq s1 s2 hb5 hr5 hf5 hz5
            go_wp2
            rw [← hw5]
            clear hw5
            go_loopw [73] (fun iv wx => ∃ n : Nat, n ≤ 8 ∧ iv = .int .i64 n ∧ Hid (KeepW w5 w5.heap.size wx)) (fun iv _ => 8 - (intOf iv).toNat)
            case atStart => exact ⟨0, by omega, rfl, Lib.hid (KeepW.start (Nat.le_refl _))⟩
            case round =>
              obtain ⟨n, hn, rfl, HN⟩ := hrel
              have HF := Lib.hid (HF5.out.keep HN.out)
              obtain ⟨hc0, hc1⟩ := HF.out.cells
              by_cases hnt : n < 8
              · obtain ⟨P4, n4, c4, hx4, hu4⟩ := lit_cell (HR5.out.below HN.out.1) n hnt
                have hn' : (n : Int) < 8 := by omega
                have HU4 := Lib.hid hu4
                clear hu4
                go_wp2_with fail
                refine (cnfUnit_walk 3 _ cs _ _ wr HF.out.2 HU4.out).mono ?_
                rintro e w6 ⟨rfl, hb6⟩
                have HN6 := Lib.hid (HN.out.step hb6)
                clear hb6 hc0 hc1 hx4
                go_wp2
                go_roundw
                case rel => exact ⟨n + 1, by omega, by go_num, HN6⟩
                case measure => simp [intOf]; omega
              · have hn' : ¬ (n : Int) < 8 := by omega
                clear hc0 hc1
                go_wp2
                go_loopw [7] (fun iv wx => ∃ z : Int, 0 ≤ z ∧ z ≤ 8 ∧ iv = .int .i64 z ∧ Hid (KeepW w5 w5.heap.size wx)) (fun iv _ => 8 - (intOf iv).toNat)
                case atStart => exact ⟨0, by omega, by omega, rfl, HN⟩
                case round =>
                  clear HF HN
                  obtain ⟨z, hz0, hz8, rfl, HN⟩ := hrel
                  by_cases hzt : z < 8
                  · go_upto_region 20 with (fail)
                    go_cut [8] (fun mv wx => Hid (MCut wr mv wx))
                    case first =>
                      obtain rfl | rfl | rfl | rfl | rfl | rfl | rfl | rfl : z = 0 ∨ z = 1 ∨ z = 2 ∨ z = 3 ∨ z = 4 ∨ z = 5 ∨ z = 6 ∨ z = 7 := by omega
                      all_goals
                        go_wp2_with fail
                        go_meet
                        exact Lib.hid (mcut_new wr _ _ _)
                    case rest =>
                      obtain ⟨gm, b1, b2, b3, rfl, hm, hkm⟩ := hcut.out
                      have HN6 := Lib.hid (HN.out.step hkm.1)
                      have HF := Lib.hid (HF5.out.keep HN6.out)
                      have HM := Lib.hid hm
                      have HKK := Lib.hid (show ∀ w', KeepW wc wc.heap.size w' → (w'.cell? ⟨g, 0, none⟩ = some (.int .i64 3) ∧ w'.cell? ⟨g, 1, none⟩ = some (.slice (some ⟨g2, 0, none⟩) 3 3)) ∧ KeepW wc wc.heap.size w' from fun w' h => ⟨(HF.out.keep h).cells, h⟩)
                      have HH3 := Lib.hid (show ∀ w', KeepW wc wc.heap.size w' → ∀ mv ms, BoolR wc AllB mv ms → Calls Try.prog 5 #[.agg #[.int .i64 3, .slice (some ⟨g2, 0, none⟩) 3 3], mv] w' fun e w2 => e = .returned (.bool true) ∧ KeepW wc wc.heap.size w2 from fun w' h mv ms hb => h.calls (cnfHolds_walk 3 _ cs _ ms w' (HF.out.keep h).2 (RdS.below hb h.1)))
                      have HS1 := Lib.hid (show ∀ w', KeepW wc wc.heap.size w' → ∀ v l, IRow w' AllB v l → Calls Try.prog 7 #[.agg #[.int .i64 3, .slice (some ⟨g2, 0, none⟩) 3 3], v, .slice (some ⟨gm, 0, none⟩) 3 3] w' fun e w2 => e = .returned (.bool true) ∧ KeepW wc wc.heap.size w2 from fun w' h v l hv => h.calls (cnfSound_walk 3 _ cs _ l _ _ w' (HF.out.keep h).2 hv (RdS.below HM.out h.1)))
                      have hk0 := KeepW.start (Nat.le_refl wc.heap.size)
                      obtain ⟨⟨hc0, hc1⟩, _⟩ := HKK.out _ hk0
                      clear hm hkm hcut
                      go_upto_region 21 with (fail)
                      go_cut [122] (fun b wx => b = .bool false ∧ Hid (KeepW wc wc.heap.size wx))
                      case first =>
                        obtain hpar | hpar : (k : Int).tmod 2 = 0 ∨ (k : Int).tmod 2 = 1 := by
                          rw [Int.tmod_eq_emod_of_nonneg (by omega)]; omega
                        all_goals
                          have hpar2 : (k : Int) % 2 = (k : Int).tmod 2 := (Int.tmod_eq_emod_of_nonneg (by omega)).symm
                          rw [hpar] at hpar2
                          have e3 : IntKind.i64.wrap 3 = 3 := by decide
                          have e2 : IntKind.i64.wrap 2 = 2 := by decide
                          have e30 : IntKind.i64.wrap (3 - 0) = 3 := by decide
                          have e31 : IntKind.i64.wrap (3 - 1) = 2 := by decide
                          go_region_held3 (fun w' => (w'.cell? ⟨g, 0, none⟩ = some (.int .i64 3) ∧ w'.cell? ⟨g, 1, none⟩ = some (.slice (some ⟨g2, 0, none⟩) 3 3)) ∧ KeepW wc wc.heap.size w') (first | exact HKK.out _ (by repeat (first | with_reducible assumption | with_reducible refine KeepW.drew ?_ | with_reducible refine KeepW.alloc ?_ _)) | go_keep) (first | (go_at_call 5; refine (HH3.out _ (by repeat (first | with_reducible assumption | with_reducible refine KeepW.drew ?_ | with_reducible refine KeepW.alloc ?_ _)) _ _ (by first | with_reducible exact HM.out | with_reducible exact boolr_two HM.out)).mono ?_; rintro e w7 ⟨rfl, hk7⟩) | (go_at_call 7; refine (HS1.out _ (by repeat (first | with_reducible assumption | with_reducible refine KeepW.drew ?_ | with_reducible refine KeepW.alloc ?_ _)) _ _ (by first | with_reducible exact irow_nil _ | exact irow_new _ #[.int .i64 1] 3 [1] rfl (by decide) | exact RdS.below (irow_new _ #[.int .i64 1] 3 [1] rfl (by decide)) (Below.refl _ _).drew)).mono ?_; rintro e w8 ⟨rfl, hk8⟩))
                          all_goals
                            have HL := Lib.hid hk7
                            clear hk7 hk8
                            go_wp2_with fail
                            go_meet
                            exact ⟨rfl, HL⟩
                      case rest =>
                        obtain ⟨rfl, hk7⟩ := hcut
                        have HN7 := Lib.hid (HN6.out.step hk7.out.1)
                        clear hc0 hc1 hk0
                        go_wp2
                        go_roundw
                        case rel => exact ⟨z + 1, by omega, by omega, by go_num, HN7⟩
                        case measure => simp [intOf]; omega
                  · have hz8' : ¬ z < 8 := hzt
                    have HF := Lib.hid (HF5.out.keep HN.out)
                    obtain ⟨hc0, hc1⟩ := HF.out.cells
                    go_wp2_with fail
                    refine (cnfCheck_walk 3 _ cs wr HF.out.2).mono ?_
                    rintro e w6 ⟨rfl, hb6⟩
                    have HN6 := Lib.hid (HK5.out.step (HN.out.step hb6).1)
                    clear hb6 hc0 hc1
                    go_wp2
                    go_roundw
                    case rel => exact ⟨k + 1, by omega, by go_num, HN6⟩
                    case measure => simp [intOf]; omega
        · obtain rfl : k = 13 := by omega
          go_wp2
          go_roundw
          case rel => exact ⟨i + 1, by omega, by go_num, HQ⟩
          case measure => simp [intOf]; omega
    · obtain rfl : i = 13 := by omega
      obtain ⟨w5, hw5, hr5, hb5, hz5⟩ := nums_row wr
      have HK5 := Lib.hid (HB.out.step hb5)
      obtain ⟨g5, hg5⟩ : ∃ g5, g5 = wr.heap.size := ⟨_, rfl⟩
      rw [← hg5] at hr5
      have HR5 := Lib.hid hr5
      clear hr5 hb5 hz5
      go_wp2
      rw [← hw5, ← hg5]
      clear hw5 hg5
      go_loopw [128] (fun iv wx => ∃ n : Nat, n ≤ 5 ∧ iv = .int .i64 n ∧ Hid (KeepW w5 w5.heap.size wx)) (fun iv _ => 5 - (intOf iv).toNat)
      case atStart => exact ⟨0, by omega, rfl, Lib.hid (KeepW.start (Nat.le_refl _))⟩
      case round =>
        obtain ⟨n, hn, rfl, HN⟩ := hrel
        by_cases hnt : n < 5
        · obtain ⟨ad, had, hcx⟩ := IRow.get (RdS.below HR5.out HN.out.1) n hnt
          obtain rfl : ad = ⟨g5, 0, none⟩ := by simpa using had.symm
          have hc5 := cell_lit hcx
          have hxb := numL_bd n hnt
          obtain ⟨x, hx⟩ : ∃ x, x = numL.getD n 0 := ⟨_, rfl⟩
          rw [← hx] at hc5 hxb
          have hn' : (n : Int) < 5 := by omega
          have hx0 := hxb.1
          have hx1 := hxb.2
          clear hcx had hx hxb
          go_wp2_with fail
          refine (cnfCheck_walk x _ [] _ ⟨[], RdS.nil _ AllB, ItemsS.nil _ _ _⟩).mono ?_
          rintro e v1 ⟨rfl, hb1⟩
          have HN1 := Lib.hid (HN.out.step hb1)
          clear hb1
          go_wp2_with fail
          refine (cnfCheck_walk x _ [[1, -100000]] _ (row_one_new v1 #[.int .i64 1, .int .i64 (-100000)] [1, -100000] 2 rfl rfl (by decide))).mono ?_
          rintro e v2 ⟨rfl, hb2⟩
          have HN2 := Lib.hid (((HN1.out.alloc _).alloc _).step hb2)
          clear hb2
          go_wp2_with fail
          refine (cnfNorm_walk _ [x, 3] _ (irow_new v2 #[.int .i64 x, .int .i64 3] 3 [x, 3] rfl (by simp))).mono ?_
          rintro e v3 ⟨rfl, hb3⟩
          have HN3 := Lib.hid ((HN2.out.alloc _).step hb3)
          clear hb3
          go_wp2_with fail
          refine (cnfNorm_walk _ [-x, 3, 3, -1] _ (irow_new v3 #[.int .i64 (-x), .int .i64 3, .int .i64 3, .int .i64 (-1)] 3 [-x, 3, 3, -1] rfl (by simp))).mono ?_
          rintro e v4 ⟨rfl, hb4⟩
          have HN4 := Lib.hid ((HN3.out.alloc _).step hb4)
          clear hb4
          go_wp2
          go_roundw
          case rel =>
            (repeat apply Exists.intro)
            refine ⟨⟨n + 1, by omega, by go_num, HN4⟩, ?_⟩
            rfl
          case measure => simp [intOf]; omega
        · obtain rfl : n = 5 := by omega
          have HK6 := Lib.hid (HK5.out.step HN.out.1)
          obtain ⟨i0, hi0, hz0, hz1, hz2⟩ := info_parts infoInt
          obtain ⟨w6, hrun, hown6, hgrow6⟩ := run_make_full (P := Try.prog) (w := wr) wr.heap.size 35 3 i0 (.int .i64 0) 1 Try.underlying35 hi0 hz0 hz1 .i64 .i64 1000001 (by rw [hz2]; omega) (by unfold maxLen; omega) (Nat.le_refl _)
          have hrun' : (Instr.makeSlice 35 (.int .i64 1000001) (.int .i64 1000001)).run Try.prog wr = .ok (.slice (some ⟨wr.heap.size, 0, none⟩) 1000001 1000001) w6 := hrun
          have hb6 : Below wr.heap.size wr w6 := (Below.refl _ _).grown hgrow6 (Nat.le_refl _) (fun k e => by cases e)
          obtain ⟨g6, hg6⟩ : ∃ g6, g6 = wr.heap.size := ⟨_, rfl⟩
          have HG6 := Lib.hid (show ∀ wx, KeepW w6 g6 wx → Below w.heap.size w wx from fun wx h => HB1.out.trans (HK6.out.1.trans (((hg6 ▸ hb6 : Below g6 wr w6).trans h.1).mono (by rw [hg6]; exact HK6.out.2)) |>.mono (by have := HB1.out.size; exact this)))
          have HO6 : Hid (∃ xs, w6.ownsRow g6 3 1 (.slice (some ⟨g6, 0, none⟩) 1000001 1000001) 1000001 xs ∧ Ones xs 0) := Lib.hid ⟨_, by rw [hg6]; exact hown6, hown6.1, by omega⟩
          have HK0 := Lib.hid (show KeepW w6 g6 w6 from ⟨Below.refl _ _, by rw [hg6]; exact hb6.size⟩)
          clear hrun hown6 hgrow6 hb6 hi0 hz0 hz1 hz2
          go_upto_region 31 with (fail)
          go_wp2
          rw [← hg6]
          clear hrun' hg6
          go_loopw [12] (fun iv wx => ∃ m : Nat, m ≤ 1000001 ∧ iv = .int .i64 m ∧ Hid (KeepW w6 g6 wx) ∧ Hid (∃ xs, wx.ownsRow g6 3 1 (.slice (some ⟨g6, 0, none⟩) 1000001 1000001) 1000001 xs ∧ Ones xs m)) (fun iv _ => 1000001 - (intOf iv).toNat)
          case atStart => exact ⟨0, by omega, rfl, HK0, HO6⟩
          case round =>
            clear HK0 HO6
            obtain ⟨m, hm, rfl, HK, HO⟩ := hrel
            obtain ⟨xs, hxs, hon⟩ := HO.out
            by_cases hmt : m < 1000001
            · have hm' : (m : Int) < 1000001 := by omega
              obtain ⟨u, hu⟩ : ∃ u, xs[m]? = some u := ⟨_, List.getElem?_eq_getElem (by rw [hon.1]; exact hmt)⟩
              have hcell := (World.ownsRow.cellAt hxs m (by omega)).trans hu
              have hfr := World.ownsRow.frozenAt hxs m
              have HK' := Lib.hid (show KeepW w6 g6 (wr.setCell ⟨g6, m, none⟩ (.int .i64 1)) from ⟨HK.out.1.setCell (p := ⟨g6, m, none⟩) (Nat.le_refl _) (.int .i64 1), by simpa using HK.out.2⟩)
              have HO' : Hid (∃ xs, (wr.setCell ⟨g6, m, none⟩ (.int .i64 1)).ownsRow g6 3 1 (.slice (some ⟨g6, 0, none⟩) 1000001 1000001) 1000001 xs ∧ Ones xs (m + 1)) := Lib.hid ⟨_, (World.ownsRow.stored hxs m _).1, hon.put hmt⟩
              clear hxs hon hu HO HK
              go_wp2
              go_roundw
              case rel => exact ⟨m + 1, by omega, by go_num, HK', HO'⟩
              case measure => simp [intOf]; omega
            · obtain rfl : m = 1000001 := by omega
              obtain ⟨L, hL, rfl, h1⟩ := hon.ints
              have hxs2 : wr.ownsRow g6 3 1 (.slice (some ⟨g6, 0, none⟩) 1000001 1000001) L.length (ints L) := by rw [hL]; exact hxs
              have HI := Lib.hid (show IRow wr AllB (.slice (some ⟨g6, 0, none⟩) 1000001 1000001) L from RdS.all (RdS.own hxs2))
              have HL := Lib.hid hL
              have H1 := Lib.hid h1
              clear hxs hxs2 hon HO hL h1 hmt hm
              go_wp2_with fail
              refine (check_any 1 _ [L] _ (row_at_new wr _ L HI.out) (by rw [count_one, HL.out]; omega)).mono ?_
              rintro e v1 ⟨rfl, hb1⟩
              rw [check_large HL.out]
              have HI1 := Lib.hid (show IRow v1 AllB (.slice (some ⟨g6, 0, none⟩) 1000001 1000001) L from RdS.below (HI.out.alloc _) hb1)
              have HK1 := Lib.hid ((HK.out.alloc _).step hb1)
              clear hb1
              go_wp2_with fail
              refine (check_any 1 _ [L.tail] _ (row_at_new v1 _ L.tail (irow_tail HI1.out HL.out (by omega))) (by rw [count_one, List.length_tail, HL.out]; omega)).mono ?_
              rintro e v2 ⟨rfl, hb2⟩
              rw [check_fits (by rw [List.length_tail, HL.out]) (fun x hx => H1.out x (List.mem_of_mem_tail hx))]
              have HK2 := Lib.hid ((HK1.out.alloc _).step hb2)
              clear hb2
              go_wp2_with fail
              refine (cnfNorm_walk _ [-9223372036854775808, 1] _ (irow_new v2 #[.int .i64 (-9223372036854775808), .int .i64 1] 3 [-9223372036854775808, 1] rfl (by simp))).mono ?_
              rintro e v3 ⟨rfl, hb3⟩
              have HK3 := Lib.hid ((HK2.out.alloc _).step hb3)
              clear hb3
              go_wp2_with fail
              refine (works_any _).mono ?_
              rintro e v4 ⟨rfl, hb4⟩
              have HK4 := Lib.hid (HG6.out _ (HK3.out.step hb4))
              clear hb4
              go_wp2
              go_ret
              exact ⟨rfl, HK4.out⟩
end Go.Proofs.Ytapaoccpbcjgeaa
