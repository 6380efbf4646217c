/- Rows of texts of the law RangesKnown; what grows in it. -/
import Derived.Test.YtjckcdemkpmheaaDoorRngAj
namespace Go.Proofs.YtjckcdemkpmheaaDoor
open Go.RowKit Go.BigFrame

def vL : List ByteArray := [⟨#[48]⟩, ⟨#[49]⟩, ⟨#[49, 46, 48]⟩, ⟨#[49, 46, 50]⟩, ⟨#[49, 46, 50, 45, 114, 99, 49]⟩, ⟨#[49, 46, 50, 46, 50]⟩, ⟨#[49, 46, 50, 46, 51]⟩, ⟨#[49, 46, 50, 46, 51, 45, 97]⟩, ⟨#[49, 46, 50, 46, 51, 46, 52]⟩, ⟨#[49, 46, 50, 46, 49, 48]⟩, ⟨#[49, 46, 51]⟩, ⟨#[49, 46, 57, 46, 57]⟩, ⟨#[50]⟩, ⟨#[50, 45, 97]⟩, ⟨#[51, 46, 49]⟩, ⟨#[48, 49]⟩, ⟨#[]⟩]
def sL : List ByteArray := [⟨#[42]⟩, ⟨#[61]⟩, ⟨#[33, 61]⟩, ⟨#[60]⟩, ⟨#[60, 61]⟩, ⟨#[62]⟩, ⟨#[62, 61]⟩, ⟨#[126]⟩]
def tL : List ByteArray := [⟨#[]⟩, ⟨#[49]⟩, ⟨#[44]⟩, ⟨#[124]⟩, ⟨#[42, 44]⟩, ⟨#[42, 42]⟩, ⟨#[42, 49]⟩, ⟨#[61, 32, 49]⟩, ⟨#[61, 61, 49]⟩, ⟨#[61, 60, 49]⟩, ⟨#[61, 62, 49]⟩, ⟨#[62, 61]⟩, ⟨#[126, 126, 49]⟩, ⟨#[61, 49, 124]⟩, ⟨#[124, 61, 49]⟩, ⟨#[61, 49, 44, 44, 61, 50]⟩, ⟨#[33, 49]⟩, ⟨#[61, 49, 32]⟩, ⟨#[42, 124, 42, 44, 42]⟩]
theorem small_of (l : List ByteArray) (n : Nat) (hl : l.length = n) (h : (List.range n).all (fun k => decide ((l.getD k ⟨#[]⟩).size ≤ 10)) = true) (k : Nat) (hk : k < n) : (l.getD k ⟨#[]⟩).size ≤ 10 := by
  simpa using List.all_eq_true.1 h k (List.mem_range.2 hk)
theorem vL_small (k : Nat) (hk : k < 17) : (vL.getD k ⟨#[]⟩).size ≤ 10 := small_of vL 17 rfl (by decide +kernel) k hk
theorem sL_small (k : Nat) (hk : k < 8) : (sL.getD k ⟨#[]⟩).size ≤ 10 := small_of sL 8 rfl (by decide +kernel) k hk
theorem tL_small (k : Nat) (hk : k < 19) : (tL.getD k ⟨#[]⟩).size ≤ 10 := small_of tL 19 rfl (by decide +kernel) k hk
theorem cell_strs {w : World} {g : Nat} {T : TypeId} (l : List ByteArray) (h : w.heap[g]? = some (.cells (strs l).toArray T)) (k : Nat) (hk : k < l.length) : w.cell? ⟨g, k, none⟩ = some (.string (l.getD k ⟨#[]⟩)) := by
  have h2 := row_cells h k (.string (l.getD k ⟨#[]⟩)) (by simpa using strs_get l k hk)
  exact cell_lit h2
theorem known2 (w : World) : ∃ W0, W0 = (w.alloc (.cells #[.string ⟨#[48]⟩, .string ⟨#[49]⟩, .string ⟨#[49, 46, 48]⟩, .string ⟨#[49, 46, 50]⟩, .string ⟨#[49, 46, 50, 45, 114, 99, 49]⟩, .string ⟨#[49, 46, 50, 46, 50]⟩, .string ⟨#[49, 46, 50, 46, 51]⟩, .string ⟨#[49, 46, 50, 46, 51, 45, 97]⟩, .string ⟨#[49, 46, 50, 46, 51, 46, 52]⟩, .string ⟨#[49, 46, 50, 46, 49, 48]⟩, .string ⟨#[49, 46, 51]⟩, .string ⟨#[49, 46, 57, 46, 57]⟩, .string ⟨#[50]⟩, .string ⟨#[50, 45, 97]⟩, .string ⟨#[51, 46, 49]⟩, .string ⟨#[48, 49]⟩, .string ⟨#[]⟩] 9)).alloc (.cells #[.string ⟨#[42]⟩, .string ⟨#[61]⟩, .string ⟨#[33, 61]⟩, .string ⟨#[60]⟩, .string ⟨#[60, 61]⟩, .string ⟨#[62]⟩, .string ⟨#[62, 61]⟩, .string ⟨#[126]⟩] 9) ∧
    W0.heap[w.heap.size]? = some (.cells (strs vL).toArray 9) ∧ W0.heap[w.heap.size + 1]? = some (.cells (strs sL).toArray 9) ∧ Below w.heap.size w W0 :=
  ⟨_, rfl, (two_new w _ _).1, (two_new w _ _).2, ((Below.refl _ _).alloc (Nat.le_refl _) _).alloc (by simp) _⟩
theorem known3 (w : World) : ∃ W0, W0 = w.alloc (.cells #[.string ⟨#[]⟩, .string ⟨#[49]⟩, .string ⟨#[44]⟩, .string ⟨#[124]⟩, .string ⟨#[42, 44]⟩, .string ⟨#[42, 42]⟩, .string ⟨#[42, 49]⟩, .string ⟨#[61, 32, 49]⟩, .string ⟨#[61, 61, 49]⟩, .string ⟨#[61, 60, 49]⟩, .string ⟨#[61, 62, 49]⟩, .string ⟨#[62, 61]⟩, .string ⟨#[126, 126, 49]⟩, .string ⟨#[61, 49, 124]⟩, .string ⟨#[124, 61, 49]⟩, .string ⟨#[61, 49, 44, 44, 61, 50]⟩, .string ⟨#[33, 49]⟩, .string ⟨#[61, 49, 32]⟩, .string ⟨#[42, 124, 42, 44, 42]⟩] 9) ∧ W0.heap[w.heap.size]? = some (.cells (strs tL).toArray 9) ∧ Below w.heap.size w W0 :=
  ⟨_, rfl, heap_alloc_new w _, (Below.refl _ _).alloc (Nat.le_refl _) _⟩
theorem own_same {w w' : World} {base n sz : Nat} {e : TypeId} {v : Value} {xs : List Value} (h : w.ownsRow base e sz v n xs) (hs : ∀ g, v.ownBlock = some g → g < w.heap.size → w'.heap[g]? = w.heap[g]?) : w'.ownsRow base e sz v n xs := by
  obtain ⟨hl, ⟨rfl, rfl⟩ | ⟨g, cap, cur, rfl, hg, hgg, h1, h2, h3, h4⟩⟩ := h
  · exact ⟨hl, .inl ⟨rfl, rfl⟩⟩
  · exact ⟨hl, .inr ⟨g, cap, cur, rfl, hg, (hs g rfl (block_lt hgg)).trans hgg, h1, h2, h3, h4⟩⟩
def AwayS (wv rv : Value) : Nat → Prop := fun b => wv.ownBlock ≠ some b ∧ rv.ownBlock ≠ some b
/-- The row and the range that grow. -/
structure Inv5 (W3 w : World) (rv wv : Value) (i : Nat) (R : List Bd) (vs : List Value) (q : List (List Bd)) : Prop where
  row : w.ownsRow W3.heap.size 45 2 rv i (rowCells R)
  wide : w.ownsRow W3.heap.size 31 1 wv i vs
  items : ItemsS BRow w (AwayS wv rv) vs q
  apart : ∀ g, rv.ownBlock = some g → wv.ownBlock ≠ some g
  below : Below W3.heap.size W3 w
  hR : R.length = i
  hq : q.length = i
theorem Inv5.step {W3 w w' : World} {rv wv : Value} {i : Nat} {R : List Bd} {vs : List Value} {q : List (List Bd)} (h : Inv5 W3 w rv wv i R vs q) (hb : Below w.heap.size w w') : Inv5 W3 w' rv wv i R vs q :=
  ⟨own_below h.row hb (Nat.le_refl _), own_below h.wide hb (Nat.le_refl _), h.items.keep BRow.keeps (SameS.below hb _), h.apart, below_step h.below hb h.below.size, h.hR, h.hq⟩
theorem Inv5.size {W3 w : World} {rv wv : Value} {i : Nat} {R : List Bd} {vs : List Value} {q : List (List Bd)} (h : Inv5 W3 w rv wv i R vs q) : W3.heap.size ≤ w.heap.size := h.below.size
theorem Inv5.rng {W3 w : World} {rv wv : Value} {i : Nat} {R : List Bd} {vs : List Value} {q : List (List Bd)} (h : Inv5 W3 w rv wv i R vs q) : RngAt w wv q :=
  ⟨vs, by rw [h.hq]; exact (RdS.own h.wide).all, h.items.weak BRow.keeps fun _ _ _ => trivial⟩
theorem Inv5.brow {W3 w : World} {rv wv : Value} {i : Nat} {R : List Bd} {vs : List Value} {q : List (List Bd)} (h : Inv5 W3 w rv wv i R vs q) : BRow w AllB rv R := by
  unfold BRow; rw [h.hR]; exact (RdS.own h.row).all
theorem Inv5.start {W3 w : World} (g : Nat) (hw : w.ownsRow W3.heap.size 45 2 (.slice (some ⟨g, 0, none⟩) 0 0) 0 []) (hb : Below W3.heap.size W3 w) : Inv5 W3 w (.slice (some ⟨g, 0, none⟩) 0 0) (.slice none 0 0) 0 [] [] [] :=
  ⟨hw, World.ownsRow_nil _ _ _ _, ItemsS.nil _ _ _, (fun _ _ h => by cases h), hb, rfl, rfl⟩
theorem Inv5.grow_row {W3 w w' : World} {rv rv' wv : Value} {i : Nat} {R : List Bd} {vs : List Value} {q : List (List Bd)} (b : Bd) (h : Inv5 W3 w rv wv i R vs q) (ho : w'.ownsRow W3.heap.size 45 2 rv' (i + 1) (rowCells R ++ bdEnc b)) (hg : w.grownBy w' rv.ownBlock) (hm : Moved w rv rv') :
    w'.ownsRow W3.heap.size 45 2 rv' (i + 1) (rowCells (R ++ [b])) ∧ w'.ownsRow W3.heap.size 31 1 wv i vs ∧ ItemsS BRow w' (AwayS wv rv') vs q ∧ (∀ g, rv'.ownBlock = some g → wv.ownBlock ≠ some g) ∧ Below W3.heap.size W3 w' := by
  have hne : ∀ g, wv.ownBlock = some g → rv.ownBlock ≠ some g := fun g e e2 => h.apart g e2 e
  refine ⟨by rw [rowCells_snoc]; exact ho, own_same h.wide fun g e hlt => (SameS.grown hg).2 g hlt (hne g e), ?_, ?_, h.below.grown hg h.size fun g e => (h.row.lt g e).1⟩
  · refine ((h.items.weak BRow.keeps (S' := fun b => rv.ownBlock ≠ some b ∧ AwayS wv rv' b) fun g hlt hS => ⟨hS.2, hS.1, fun e => ?_⟩).keep BRow.keeps ((SameS.grown hg).weak fun g _ hS => hS.1)).weak BRow.keeps fun g _ hS => hS.2
    rcases hm with e2 | ⟨g', e2, hge⟩
    · exact hS.2 (e2 ▸ e)
    · rw [e2] at e; cases e; omega
  · intro g e e3
    rcases hm with e2 | ⟨g', e2, hge⟩
    · exact h.apart g (e2 ▸ e) e3
    · rw [e2] at e; cases e
      have := (h.wide.lt _ e3).2; omega
theorem Inv5.grow_wide {W3 w w' : World} {rv wv wv' : Value} {i : Nat} {R : List Bd} {vs : List Value} {q : List (List Bd)} (u : Value) (row : List Bd) (hrow : w.ownsRow W3.heap.size 45 2 rv (i + 1) (rowCells R)) (hwide : w.ownsRow W3.heap.size 31 1 wv i vs) (hit : ItemsS BRow w (AwayS wv rv) vs q) (hap : ∀ g, rv.ownBlock = some g → wv.ownBlock ≠ some g) (hbl : Below W3.heap.size W3 w)
    (hu : BRow w (AwayS wv rv) u row) (hR : R.length = i + 1) (hq : q.length = i) (ho : w'.ownsRow W3.heap.size 31 1 wv' (i + 1) (vs ++ [u])) (hg : w.grownBy w' wv.ownBlock) (hm : Moved w wv wv') :
    Inv5 W3 w' rv wv' (i + 1) R (vs ++ [u]) (q ++ [row]) := by
  refine ⟨own_same hrow fun g e hlt => (SameS.grown hg).2 g hlt (hap g e), ho, ?_, ?_, hbl.grown hg hbl.size fun g e => (hwide.lt g e).1, hR, by simp [hq]⟩
  · refine (((hit.snoc hu).weak BRow.keeps (S' := fun b => wv.ownBlock ≠ some b ∧ AwayS wv' rv b) fun g hlt hS => ⟨hS.1, fun e => ?_, hS.2⟩).keep BRow.keeps ((SameS.grown hg).weak fun g _ hS => hS.1)).weak BRow.keeps fun g _ hS => hS.2
    rcases hm with e2 | ⟨g', e2, hge⟩
    · exact hS.1 (e2 ▸ e)
    · rw [e2] at e; cases e; omega
  · intro g e e3
    rcases hm with e2 | ⟨g', e2, hge⟩
    · exact hap g e (e2 ▸ e3)
    · rw [e2] at e3; cases e3
      have := (hrow.lt _ e).2; omega
/-- A range of one row that lies there. -/
theorem rng_of_row {w : World} {g : Nat} {v : Value} {row : List Bd} (h : BRow w AllB v row) (hg : w.heap[g]? = some (.cells #[v] 31)) : RngAt w (.slice (some ⟨g, 0, none⟩) 1 1) [row] := by
  refine ⟨[v], reads_block (xs := [v]) hg (by simp), rfl, fun k u x hu hx => ?_⟩
  match k, hu, hx with
  | 0, hu, hx =>
    simp at hu hx
    subst hu; subst hx
    exact h
theorem u8_small (k : Nat) (h : k < 17) : IntKind.u8.wrap (k : Int) = (k : Int) := by
  have : k = 0 ∨ k = 1 ∨ k = 2 ∨ k = 3 ∨ k = 4 ∨ k = 5 ∨ k = 6 ∨ k = 7 ∨ k = 8 ∨ k = 9 ∨ k = 10 ∨ k = 11 ∨ k = 12 ∨ k = 13 ∨ k = 14 ∨ k = 15 ∨ k = 16 := by omega
  rcases this with rfl | rfl | rfl | rfl | rfl | rfl | rfl | rfl | rfl | rfl | rfl | rfl | rfl | rfl | rfl | rfl | rfl <;> rfl
theorem u8_wf (k : Nat) (h : k < 17) : (Lit.int .u8 (k : Int)).wf = true := by
  simp [Lit.wf, IntKind.min, IntKind.max, IntKind.signed, IntKind.bits]; omega
end Go.Proofs.YtjckcdemkpmheaaDoor
