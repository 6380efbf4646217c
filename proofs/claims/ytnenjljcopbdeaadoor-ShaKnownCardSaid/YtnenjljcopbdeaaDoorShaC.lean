/- Plain facts ahead of the contract of Block. -/
import Derived.Test.YtnenjljcopbdeaaDoorShaB
import Derived.StillTailTactics
import Derived.Outline
namespace Go.Proofs.YtnenjljcopbdeaaDoor
open Go.RowKit

/-- The package's tables, as they are laid. -/
def Tabs (w : World) : Prop := 2 ≤ w.heap.size ∧ (∀ t, t < 64 → w.cell? ⟨0, t, none⟩ = some (.int .u32 ((kW t).toNat : Int))) ∧ (∀ t, t < 8 → w.cell? ⟨1, t, none⟩ = some (.int .u32 ((hW t).toNat : Int)))
theorem Tabs.below {w w' : World} (h : Tabs w) (hb : Below w.heap.size w w') : Tabs w' := by
  obtain ⟨h2, hk, hh⟩ := h
  have hz := hb.size
  exact ⟨by omega, fun t ht => (hb.cell (p := ⟨0, t, none⟩) (by show 0 < _; omega)).trans (hk t ht), fun t ht => (hb.cell (p := ⟨1, t, none⟩) (by show 1 < _; omega)).trans (hh t ht)⟩

/-- Which word stands in the ring ahead of round t. -/
def idx (t j : Nat) : Nat := if t ≤ 16 then j else t - 1 - (t - 1 - j) % 16
def ringAt (B : Nat → Nat) (t j : Nat) : UInt32 := wAt B (idx t j)
theorem zeros8 : #[Value.int IntKind.u32 0, Value.int IntKind.u32 0, Value.int IntKind.u32 0, Value.int IntKind.u32 0, Value.int IntKind.u32 0, Value.int IntKind.u32 0, Value.int IntKind.u32 0, Value.int IntKind.u32 0] = wrow (fun _ => 0) 8 := rfl
theorem row_put (B0 : Nat) (w w2 : World) (A A' : Array Value) (t : TypeId) (hb : Below B0 w w2) (hB : B0 ≤ w2.heap.size) : ∃ w3, w3 = (w2.alloc (.cells A t)).setRow w2.heap.size A' ∧ w3.heap[w2.heap.size]? = some (.cells A' t (0, 0)) ∧ (∀ i, i < w2.heap.size → w3.heap[i]? = w2.heap[i]?) ∧ Below B0 w w3 ∧ w3.heap.size = w2.heap.size + 1 := by
  refine ⟨_, rfl, setRow_heap _ _ _ _ _ _ (heap_alloc_new w2 (.cells A t)), fun i hi => ?_, below_setRow (hb.alloc hB _) hB _, by simp⟩
  rw [setRow_other _ _ _ _ (by omega)]
  exact old_block _ _ _ hi
theorem ring_start (B : Nat → Nat) : wrow (word B) 16 = wrow (ringAt B 0) 16 := wrow_congr _ _ _ fun j hj => (wAt_low B j hj).symm

theorem drawn_facts (wr : World) (r B0 nq n0 n9 : Nat) {W : World} (x0 x9 : Value) (R C Z : Obj) (c0 : wr.cell? ⟨r, n0, none⟩ = some x0) (c9 : wr.cell? ⟨r, n9, none⟩ = some x9) (fr : ∀ j, wr.frozen? ⟨r, j, none⟩ = false) (hgX : wr.heap[r]? = some R) (hgC : wr.heap[B0]? = some C) (hgR : wr.heap[B0 + 2]? = some Z) (hB : Below B0 W wr) :
    ∃ w5, w5 = wr.drewN nq ∧ w5.cell? ⟨r, n0, none⟩ = some x0 ∧ w5.cell? ⟨r, n9, none⟩ = some x9 ∧ (∀ j, w5.frozen? ⟨r, j, none⟩ = false) ∧ w5.heap[r]? = some R ∧ w5.heap[B0]? = some C ∧ w5.heap[B0 + 2]? = some Z ∧ Below B0 W w5 :=
  ⟨_, rfl, c0, c9, fr, hgX, hgC, hgR, below_drewN hB nq⟩

theorem stored_facts (wr : World) (r B0 n0 n9 : Nat) {W : World} (x0 y0 x9 : Value) (R : Array Value) (T : TypeId) (C Z : Obj) (hne : n9 ≠ n0) (c0 : wr.cell? ⟨r, n0, none⟩ = some x0) (c9 : wr.cell? ⟨r, n9, none⟩ = some x9) (_fr : ∀ j, wr.frozen? ⟨r, j, none⟩ = false) (hgX : wr.heap[r]? = some (.cells R T (0, 0))) (hgC : wr.heap[B0]? = some C) (hgR : wr.heap[B0 + 2]? = some Z) (hB : Below B0 W wr) (hr : B0 + 3 ≤ r) :
    ∃ w5, w5 = wr.setCell ⟨r, n0, none⟩ y0 ∧ w5.cell? ⟨r, n0, none⟩ = some y0 ∧ w5.cell? ⟨r, n9, none⟩ = some x9 ∧ (∀ j, w5.frozen? ⟨r, j, none⟩ = false) ∧ w5.heap[r]? = some (.cells (R.setIfInBounds n0 y0) T (0, 0)) ∧ w5.heap[B0]? = some C ∧ w5.heap[B0 + 2]? = some Z ∧ Below B0 W w5 := by
  have hX := heap_setCell_same wr r n0 _ _ y0 hgX
  have hlt : n0 < R.size := by
    rw [cell_of_row _ _ _ _ _ _ hgX] at c0
    exact (Array.getElem?_eq_some_iff.1 c0).1
  refine ⟨_, rfl, ?_, ?_, fun j => frozen_of_row _ _ _ _ _ hX, hX, (heap_setCell_other wr _ _ _ (by show B0 ≠ r; omega)).trans hgC, (heap_setCell_other wr _ _ _ (by show B0 + 2 ≠ r; omega)).trans hgR, hB.setCell (by show B0 ≤ r; omega) _⟩
  · rw [cell_of_row _ _ _ _ _ _ hX]; simp [hlt]
  · rw [cell_of_row _ _ _ _ _ _ hX, Array.getElem?_setIfInBounds, if_neg (fun e => hne e.symm), ← cell_of_row _ _ _ _ _ _ hgX]; exact c9

theorem ring_set (B : Nat → Nat) (t n0 : Nat) (h16 : 16 ≤ t) (hn : n0 = t % 16) (u : Value) (y : UInt32) (hy : y = wAt B t) : ((wrow (ringAt B t) 16).setIfInBounds n0 u).setIfInBounds n0 (.int .u32 (y.toNat : Int)) = wrow (ringAt B (t + 1)) 16 := by
  have e : y = ringAt B (t + 1) n0 := by
    rw [hy, ringAt, show idx (t + 1) n0 = t from by unfold idx; split <;> omega]
  rw [Array.setIfInBounds_setIfInBounds, e]
  exact wrow_set _ _ _ _ fun i hi hne => by
    rw [ringAt, ringAt, show idx (t + 1) i = idx t i from by unfold idx; split <;> split <;> omega]
theorem ring_keep (B : Nat → Nat) (t : Nat) (h16 : t < 16) : wrow (ringAt B (t + 1)) 16 = wrow (ringAt B t) 16 :=
  wrow_congr _ _ _ fun i _ => by rw [ringAt, ringAt, show idx (t + 1) i = idx t i from by unfold idx; split <;> split <;> omega]
theorem ring_low (B : Nat → Nat) (t : Nat) (h16 : t < 16) : ringAt B t t = wAt B t := by
  rw [ringAt, show idx t t = t from by unfold idx; split <;> omega]
theorem word_up (B : Nat → Nat) (q : Nat) (hq : q < 48) {z0 z1 z9 z14 p1 p2 p3 y0 q1 q2 q3 q4 y1 : UInt32} (Z0 : Hid (z0 = wAt B q)) (Z1 : Hid (z1 = wAt B (q + 1))) (Z9 : Hid (z9 = wAt B (q + 9))) (Z14 : Hid (z14 = wAt B (q + 14)))
    (P1 : Hid (p1 = rotr z1 7 ^^^ rotr z1 18)) (P2 : Hid (p2 = shr z1 3)) (P3 : Hid (p3 = p1 ^^^ p2)) (Y0 : Hid (y0 = z0 + p3)) (Q1 : Hid (q1 = rotr z14 17 ^^^ rotr z14 19)) (Q2 : Hid (q2 = shr z14 10)) (Q3 : Hid (q3 = q1 ^^^ q2)) (Q4 : Hid (q4 = z9 + q3)) (Y1 : Hid (y1 = y0 + q4)) : y1 = wAt B (q + 16) := by
  rw [wAt_up B q hq, ← Z0.out, ← Z1.out, ← Z9.out, ← Z14.out, Y1.out, Q4.out, Q3.out, Q2.out, Q1.out, Y0.out, P3.out, P2.out, P1.out, UInt32.add_assoc (z0 + _) z9]
  rfl
theorem raw_x {e g kk y s3 s4 s5 s6 s7 s8 s9 x : UInt32} (S5 : Hid (s5 = ~~~e)) (S6 : Hid (s6 = s5 &&& g)) (S7 : Hid (s7 = s4 ||| s6)) (S8 : Hid (s8 = s3 + s7)) (S9 : Hid (s9 = s8 + kk)) (X : Hid (x = s9 + y)) :
    ((s3.toNat : Int) + bits .or .u32 (s4.toNat : Int) (bits .and .u32 (bits .xor .u32 IntKind.u32.max (e.toNat : Int)) (g.toNat : Int)) + (kk.toNat : Int) + (y.toNat : Int)) % 4294967296 = (x.toNat : Int) := by
  rw [show bits .xor .u32 IntKind.u32.max (e.toNat : Int) = (s5.toNat : Int) from by rw [S5.out]; exact u_not e, u_and, ← S6.out, u_or, ← S7.out, X.out, S9.out, S8.out, UInt32.toNat_add, UInt32.toNat_add, UInt32.toNat_add]
  omega
theorem rnd_of {a b c d e f g h kk y s1 s2 s3 s4 s5 s6 s7 s8 s9 x t1 t2 t3 t4 t5 t6 t7 v dn an : UInt32} (S1 : Hid (s1 = rotr e 6 ^^^ rotr e 11)) (S2 : Hid (s2 = s1 ^^^ rotr e 25)) (S3 : Hid (s3 = h + s2)) (S4 : Hid (s4 = e &&& f)) (S5 : Hid (s5 = ~~~e)) (S6 : Hid (s6 = s5 &&& g)) (S7 : Hid (s7 = s4 ||| s6)) (S8 : Hid (s8 = s3 + s7)) (S9 : Hid (s9 = s8 + kk)) (X : Hid (x = s9 + y))
    (T1 : Hid (t1 = rotr a 2 ^^^ rotr a 13)) (T2 : Hid (t2 = t1 ^^^ rotr a 22)) (T3 : Hid (t3 = a &&& b)) (T4 : Hid (t4 = a &&& c)) (T5 : Hid (t5 = t3 ||| t4)) (T6 : Hid (t6 = b &&& c)) (T7 : Hid (t7 = t5 ||| t6)) (V : Hid (v = t2 + t7)) (D : Hid (dn = d + x)) (A : Hid (an = x + v)) : (⟨an, a, b, c, dn, e, f, g⟩ : St) = rnd kk y ⟨a, b, c, d, e, f, g, h⟩ := by
  have hx : x = tA kk y ⟨a, b, c, d, e, f, g, h⟩ := by
    rw [X.out, S9.out, S8.out, S7.out, S6.out, S5.out, S4.out, S3.out, S2.out, S1.out, ch_or]; rfl
  have hv : v = tB ⟨a, b, c, d, e, f, g, h⟩ := by
    rw [V.out, T7.out, T6.out, T5.out, T4.out, T3.out, T2.out, T1.out, maj_or]; rfl
  rw [A.out, D.out, hx, hv]
  rfl
/-- The chain while its words are put together. -/
def mixTo (c : Nat → UInt32) (s : St) (k i : Nat) : UInt32 := if i < k then s.at i + c i else c i
theorem mix_zero (c : Nat → UInt32) (s : St) : mixTo c s 0 = c := by funext i; simp [mixTo]
theorem mix_all (c : Nat → UInt32) (B : Nat → Nat) (s : St) (h : s = rounds (wAt B) (stOf c) 64) : wrow (mixTo c s 8) 8 = wrow (block c B) 8 :=
  wrow_congr _ _ _ fun i hi => by rw [mixTo, if_pos hi, block, h]
theorem mix_set (c : Nat → UInt32) (s : St) (k : Nat) (y : UInt32) (hy : y = c k + s.at k) : (wrow (mixTo c s k) 8).setIfInBounds k (.int .u32 (y.toNat : Int)) = wrow (mixTo c s (k + 1)) 8 := by
  have e : y = mixTo c s (k + 1) k := by rw [mixTo, if_pos (by omega), hy, UInt32.add_comm]
  rw [e]
  exact wrow_set _ _ _ _ fun i _ hne => by unfold mixTo; split <;> split <;> first | rfl | omega
theorem mix_get (c : Nat → UInt32) (s : St) (k : Nat) (hk : k < 8) : (wrow (mixTo c s k) 8)[k]? = some (.int .u32 ((c k).toNat : Int)) := by
  rw [wrow_get _ _ _ hk, mixTo, if_neg (by omega)]
theorem st_row (a b c d e f g h : UInt32) : #[Value.int .u32 (a.toNat : Int), .int .u32 (b.toNat : Int), .int .u32 (c.toNat : Int), .int .u32 (d.toNat : Int), .int .u32 (e.toNat : Int), .int .u32 (f.toNat : Int), .int .u32 (g.toNat : Int), .int .u32 (h.toNat : Int)] = wrow (St.at ⟨a, b, c, d, e, f, g, h⟩) 8 := rfl
end Go.Proofs.YtnenjljcopbdeaaDoor
