/- disk: DiskKnown, its last calls. -/
import Derived.Test.YtfgbaigpmhnoaaaDskKc
import Derived.Test.YtfgbaigpmhnoaaaDskZ
set_option linter.unusedVariables false
set_option linter.unusedSimpArgs false
namespace Go.Proofs.Ytfgbaigpmhnoaaa
open Go.RowKit Go.BigFrame Go.Maps
open Dsk (Fl St Ok get put drop used)

theorem blk_below {w : World} (o : Obj) : Below w.heap.size w (w.alloc o) := (Below.refl _ _).alloc (Nat.le_refl _) _
theorem YesPost.up {w w1 : World} {e : Ending} {w' : World} (hb : Below w.heap.size w w1) (h : YesPost w1 e w') : YesPost w e w' := ⟨h.1, below_step hb h.2 hb.size⟩
theorem RRB.more {w : World} {B B' : Nat} {v : Value} {rs : List (List Nat)} (h : RRB w B v rs) (hb : B ≤ B') : RRB w B' v rs := by
  obtain ⟨A, cap, e, h1, h2, h3⟩ := h
  refine ⟨A, cap, e, h1, h2, fun i hi => ?_⟩
  obtain ⟨ad, u, e1, e2, e3, e4⟩ := h3 i hi
  exact ⟨ad, u, e1, Nat.lt_of_lt_of_le e2 hb, e3, e4.more hb⟩
theorem add0 (g j : Nat) : (⟨g, 0, none⟩ : Addr).add j = ⟨g, j, none⟩ := by unfold Addr.add; by_cases h0 : j = 0 <;> simp [h0]
theorem blkB {w w1 : World} {cs : Array Value} (e : w1 = w.alloc (.cells cs 5)) (l : List Nat) (hc : cs = (bvs l).toArray) (hl : ∀ x ∈ l, x < 256) (hn : l.length ≤ maxLen) : RB w1 w1.heap.size (.slice (some ⟨w.heap.size, 0, none⟩) l.length l.length) l :=
  rb_blk (by rw [e]; exact heap_alloc_new w (.cells cs 5)) hc hl hn
theorem blkI {w w1 : World} {cs : Array Value} (e : w1 = w.alloc (.cells cs 3)) (ks : List Int) (hc : cs = (ks.map (Value.int .i64)).toArray) (hn : ks.length ≤ maxLen) : RInt w1 w1.heap.size (.slice (some ⟨w.heap.size, 0, none⟩) ks.length ks.length) ks :=
  rint_blk (by rw [e]; exact heap_alloc_new w (.cells cs 3)) hc hn
set_option maxRecDepth 100000 in
/-- The short row. -/
theorem kept_plays (w : World) : Calls Try.prog 3 #[.int .i64 50, .slice (some ⟨w.heap.size + 1 + 1, 0, none⟩) 11 11]
    (((w.alloc (.cells #[.int .u8 1] 5)).alloc (.cells #[.int .i64 3, .int .i64 3] 3)).alloc (.cells #[.int .u8 0, .string ⟨#[101]⟩, .string ⟨#[]⟩, .slice none 0 0, .int .i64 0, .slice none 0 0, .int .u8 0, .string ⟨#[103]⟩, .string ⟨#[]⟩, .slice none 0 0, .int .i64 0, .slice none 0 0, .int .u8 3, .string ⟨#[101]⟩, .string ⟨#[]⟩, .slice none 0 0, .int .i64 0, .slice none 0 0, .int .u8 9, .string ⟨#[]⟩, .string ⟨#[]⟩, .slice none 0 0, .int .i64 0, .slice none 0 0, .int .u8 10, .string ⟨#[]⟩, .string ⟨#[]⟩, .slice none 0 0, .int .i64 0, .slice none 0 0, .int .u8 7, .string ⟨#[101]⟩, .string ⟨#[]⟩, .slice none 0 0, .int .i64 0, .slice none 0 0, .int .u8 7, .string ⟨#[103]⟩, .string ⟨#[]⟩, .slice none 0 0, .int .i64 0, .slice none 0 0, .int .u8 0, .string ⟨#[104]⟩, .string ⟨#[]⟩, .slice (some ⟨w.heap.size, 0, none⟩) 1 1, .int .i64 0, .slice none 0 0, .int .u8 4, .string ⟨#[104]⟩, .string ⟨#[]⟩, .slice none 0 0, .int .i64 0, .slice none 0 0, .int .u8 9, .string ⟨#[]⟩, .string ⟨#[]⟩, .slice none 0 0, .int .i64 0, .slice none 0 0, .int .u8 10, .string ⟨#[]⟩, .string ⟨#[]⟩, .slice none 0 0, .int .i64 0, .slice (some ⟨w.heap.size + 1, 0, none⟩) 2 2] 32)) (YesPost w) := by
  obtain ⟨w1, e1⟩ : ∃ w1, w1 = w.alloc (.cells #[.int .u8 1] 5) := ⟨_, rfl⟩
  rw [← e1]
  have s1 : w1.heap.size = w.heap.size + 1 := by rw [e1]; simp
  have b1 : Below w.heap.size w w1 := by rw [e1]; exact blk_below _
  have hB : RB w1 w1.heap.size (.slice (some ⟨w.heap.size, 0, none⟩) 1 1) [1] := blkB e1 [1] rfl (by decide) (by decide)
  clear e1
  obtain ⟨w2, e2⟩ : ∃ w2, w2 = w1.alloc (.cells #[.int .i64 3, .int .i64 3] 3) := ⟨_, rfl⟩
  rw [← e2]
  have s2 : w2.heap.size = w.heap.size + 1 + 1 := by rw [e2, ← s1]; simp
  have b2 : Below w1.heap.size w1 w2 := by rw [e2]; exact blk_below _
  have hI : RInt w2 w2.heap.size (.slice (some ⟨w.heap.size + 1, 0, none⟩) 2 2) [3, 3] := by
    rw [← s1]
    exact blkI e2 [3, 3] rfl (by decide)
  have hB2 := (hB.below b2).more b2.size
  clear e2 hB
  obtain ⟨w3, e3⟩ : ∃ w3, w3 = w2.alloc (.cells #[.int .u8 0, .string ⟨#[101]⟩, .string ⟨#[]⟩, .slice none 0 0, .int .i64 0, .slice none 0 0, .int .u8 0, .string ⟨#[103]⟩, .string ⟨#[]⟩, .slice none 0 0, .int .i64 0, .slice none 0 0, .int .u8 3, .string ⟨#[101]⟩, .string ⟨#[]⟩, .slice none 0 0, .int .i64 0, .slice none 0 0, .int .u8 9, .string ⟨#[]⟩, .string ⟨#[]⟩, .slice none 0 0, .int .i64 0, .slice none 0 0, .int .u8 10, .string ⟨#[]⟩, .string ⟨#[]⟩, .slice none 0 0, .int .i64 0, .slice none 0 0, .int .u8 7, .string ⟨#[101]⟩, .string ⟨#[]⟩, .slice none 0 0, .int .i64 0, .slice none 0 0, .int .u8 7, .string ⟨#[103]⟩, .string ⟨#[]⟩, .slice none 0 0, .int .i64 0, .slice none 0 0, .int .u8 0, .string ⟨#[104]⟩, .string ⟨#[]⟩, .slice (some ⟨w.heap.size, 0, none⟩) 1 1, .int .i64 0, .slice none 0 0, .int .u8 4, .string ⟨#[104]⟩, .string ⟨#[]⟩, .slice none 0 0, .int .i64 0, .slice none 0 0, .int .u8 9, .string ⟨#[]⟩, .string ⟨#[]⟩, .slice none 0 0, .int .i64 0, .slice none 0 0, .int .u8 10, .string ⟨#[]⟩, .string ⟨#[]⟩, .slice none 0 0, .int .i64 0, .slice (some ⟨w.heap.size + 1, 0, none⟩) 2 2] 32) := ⟨_, rfl⟩
  rw [← e3]
  have b3 : Below w2.heap.size w2 w3 := by rw [e3]; exact blk_below _
  have hB3 := (hB2.below b3).more b3.size
  have hI3 := (hI.below b3).more b3.size
  have hg : w3.heap[w2.heap.size]? = some (.cells #[.int .u8 0, .string ⟨#[101]⟩, .string ⟨#[]⟩, .slice none 0 0, .int .i64 0, .slice none 0 0, .int .u8 0, .string ⟨#[103]⟩, .string ⟨#[]⟩, .slice none 0 0, .int .i64 0, .slice none 0 0, .int .u8 3, .string ⟨#[101]⟩, .string ⟨#[]⟩, .slice none 0 0, .int .i64 0, .slice none 0 0, .int .u8 9, .string ⟨#[]⟩, .string ⟨#[]⟩, .slice none 0 0, .int .i64 0, .slice none 0 0, .int .u8 10, .string ⟨#[]⟩, .string ⟨#[]⟩, .slice none 0 0, .int .i64 0, .slice none 0 0, .int .u8 7, .string ⟨#[101]⟩, .string ⟨#[]⟩, .slice none 0 0, .int .i64 0, .slice none 0 0, .int .u8 7, .string ⟨#[103]⟩, .string ⟨#[]⟩, .slice none 0 0, .int .i64 0, .slice none 0 0, .int .u8 0, .string ⟨#[104]⟩, .string ⟨#[]⟩, .slice (some ⟨w.heap.size, 0, none⟩) 1 1, .int .i64 0, .slice none 0 0, .int .u8 4, .string ⟨#[104]⟩, .string ⟨#[]⟩, .slice none 0 0, .int .i64 0, .slice none 0 0, .int .u8 9, .string ⟨#[]⟩, .string ⟨#[]⟩, .slice none 0 0, .int .i64 0, .slice none 0 0, .int .u8 10, .string ⟨#[]⟩, .string ⟨#[]⟩, .slice none 0 0, .int .i64 0, .slice (some ⟨w.heap.size + 1, 0, none⟩) 2 2] 32 (0, 0)) := by rw [e3]; exact heap_alloc_new w2 _
  clear e3 hB2 hI
  have hC := calls_blk (xs := [⟨0, ⟨#[101]⟩, ⟨#[]⟩, [], .slice none 0 0, 0, [], .slice none 0 0⟩, ⟨0, ⟨#[103]⟩, ⟨#[]⟩, [], .slice none 0 0, 0, [], .slice none 0 0⟩, ⟨3, ⟨#[101]⟩, ⟨#[]⟩, [], .slice none 0 0, 0, [], .slice none 0 0⟩, ⟨9, ⟨#[]⟩, ⟨#[]⟩, [], .slice none 0 0, 0, [], .slice none 0 0⟩, ⟨10, ⟨#[]⟩, ⟨#[]⟩, [], .slice none 0 0, 0, [], .slice none 0 0⟩, ⟨7, ⟨#[101]⟩, ⟨#[]⟩, [], .slice none 0 0, 0, [], .slice none 0 0⟩, ⟨7, ⟨#[103]⟩, ⟨#[]⟩, [], .slice none 0 0, 0, [], .slice none 0 0⟩, ⟨0, ⟨#[104]⟩, ⟨#[]⟩, [1], .slice (some ⟨w.heap.size, 0, none⟩) 1 1, 0, [], .slice none 0 0⟩, ⟨4, ⟨#[104]⟩, ⟨#[]⟩, [], .slice none 0 0, 0, [], .slice none 0 0⟩, ⟨9, ⟨#[]⟩, ⟨#[]⟩, [], .slice none 0 0, 0, [], .slice none 0 0⟩, ⟨10, ⟨#[]⟩, ⟨#[]⟩, [], .slice none 0 0, 0, [3, 3], .slice (some ⟨w.heap.size + 1, 0, none⟩) 2 2⟩]) hg rfl (by
    simp only [List.forall_mem_cons]
    exact ⟨⟨by dsimp only; decide, by dsimp only; decide, by dsimp only; decide, RB.nil _ _, by dsimp only; decide, RInt.nil _ _⟩, ⟨by dsimp only; decide, by dsimp only; decide, by dsimp only; decide, RB.nil _ _, by dsimp only; decide, RInt.nil _ _⟩, ⟨by dsimp only; decide, by dsimp only; decide, by dsimp only; decide, RB.nil _ _, by dsimp only; decide, RInt.nil _ _⟩, ⟨by dsimp only; decide, by dsimp only; decide, by dsimp only; decide, RB.nil _ _, by dsimp only; decide, RInt.nil _ _⟩, ⟨by dsimp only; decide, by dsimp only; decide, by dsimp only; decide, RB.nil _ _, by dsimp only; decide, RInt.nil _ _⟩, ⟨by dsimp only; decide, by dsimp only; decide, by dsimp only; decide, RB.nil _ _, by dsimp only; decide, RInt.nil _ _⟩, ⟨by dsimp only; decide, by dsimp only; decide, by dsimp only; decide, RB.nil _ _, by dsimp only; decide, RInt.nil _ _⟩, ⟨by dsimp only; decide, by dsimp only; decide, by dsimp only; decide, hB3, by dsimp only; decide, RInt.nil _ _⟩, ⟨by dsimp only; decide, by dsimp only; decide, by dsimp only; decide, RB.nil _ _, by dsimp only; decide, RInt.nil _ _⟩, ⟨by dsimp only; decide, by dsimp only; decide, by dsimp only; decide, RB.nil _ _, by dsimp only; decide, RInt.nil _ _⟩, ⟨by dsimp only; decide, by dsimp only; decide, by dsimp only; decide, RB.nil _ _, by dsimp only; decide, hI3⟩, fun x hx => by cases hx⟩)
  rw [s2] at hC
  exact (plays_w w3 50 _ 11 11 _ hC (by omega) (by unfold maxLen; omega) (by omega) (by omega)).mono fun e w' h => ((h.up b3).up b2).up b1
/-- The long row. -/
theorem long_plays {w : World} {LA : Option Addr} {ln lcap : Nat} (q : Int) (h : RowL (.slice LA ln lcap) w) (hq1 : -9223372036854775808 ≤ q) (hq2 : q ≤ 9223372036854775807) :
    Calls Try.prog 3 #[.int .i64 q, .slice LA ln lcap] w (YesPost w) := by
  obtain ⟨x, LA', ln', lcap', e, hl, hc⟩ := h
  cases e
  exact plays_w w q _ _ _ x hc hl.1 hl.2 hq1 hq2
theorem keeps_lit (w : World) : Calls Try.prog 4 #[.slice (some ⟨w.heap.size + 1 + 1 + 1, 0, none⟩) 4 4, .slice (some ⟨w.heap.size + 1 + 1 + 1 + 1, 0, none⟩) 3 3, .int .i64 3, .int .i64 1]
    (((((w.alloc (.cells #[.int .u8 1, .int .u8 2] 5)).alloc (.cells #[.int .u8 3] 5)).alloc (.cells #[.int .u8 4, .int .u8 5] 5)).alloc
      (.cells #[.slice (some ⟨w.heap.size, 0, none⟩) 2 2, .slice (some ⟨w.heap.size + 1, 0, none⟩) 1 1, .slice none 0 0, .slice (some ⟨w.heap.size + 1 + 1, 0, none⟩) 2 2] 29)).alloc (.cells #[.bool true, .bool false, .bool true] 4)) (YesPost w) := by
  obtain ⟨w1, e1⟩ : ∃ w1, w1 = w.alloc (.cells #[.int .u8 1, .int .u8 2] 5) := ⟨_, rfl⟩
  rw [← e1]
  have s1 : w1.heap.size = w.heap.size + 1 := by rw [e1]; simp
  have b1 : Below w.heap.size w w1 := by rw [e1]; exact blk_below _
  have h1 : RB w1 w1.heap.size (.slice (some ⟨w.heap.size, 0, none⟩) 2 2) [1, 2] := blkB e1 [1, 2] rfl (by decide) (by decide)
  clear e1
  obtain ⟨w2, e2⟩ : ∃ w2, w2 = w1.alloc (.cells #[.int .u8 3] 5) := ⟨_, rfl⟩
  rw [← e2]
  have s2 : w2.heap.size = w.heap.size + 1 + 1 := by rw [e2, ← s1]; simp
  have b2 : Below w1.heap.size w1 w2 := by rw [e2]; exact blk_below _
  have h2 : RB w2 w2.heap.size (.slice (some ⟨w.heap.size + 1, 0, none⟩) 1 1) [3] := by
    rw [← s1]
    exact blkB e2 [3] rfl (by decide) (by decide)
  have h12 := (h1.below b2).more b2.size
  clear e2 h1
  obtain ⟨w3, e3⟩ : ∃ w3, w3 = w2.alloc (.cells #[.int .u8 4, .int .u8 5] 5) := ⟨_, rfl⟩
  rw [← e3]
  have s3 : w3.heap.size = w.heap.size + 1 + 1 + 1 := by rw [e3, ← s2]; simp
  have b3 : Below w2.heap.size w2 w3 := by rw [e3]; exact blk_below _
  have h3 : RB w3 w3.heap.size (.slice (some ⟨w.heap.size + 1 + 1, 0, none⟩) 2 2) [4, 5] := by
    rw [← s2]
    exact blkB e3 [4, 5] rfl (by decide) (by decide)
  have h13 := (h12.below b3).more b3.size
  have h23 := (h2.below b3).more b3.size
  clear e3 h12 h2
  obtain ⟨w4, e4⟩ : ∃ w4, w4 = w3.alloc (.cells #[.slice (some ⟨w.heap.size, 0, none⟩) 2 2, .slice (some ⟨w.heap.size + 1, 0, none⟩) 1 1, .slice none 0 0, .slice (some ⟨w.heap.size + 1 + 1, 0, none⟩) 2 2] 29) := ⟨_, rfl⟩
  rw [← e4]
  have s4 : w4.heap.size = w.heap.size + 1 + 1 + 1 + 1 := by rw [e4, ← s3]; simp
  have b4 : Below w3.heap.size w3 w4 := by rw [e4]; exact blk_below _
  have g4 : w4.heap[w3.heap.size]? = some (.cells #[.slice (some ⟨w.heap.size, 0, none⟩) 2 2, .slice (some ⟨w.heap.size + 1, 0, none⟩) 1 1, .slice none 0 0, .slice (some ⟨w.heap.size + 1 + 1, 0, none⟩) 2 2] 29 (0, 0)) := by rw [e4]; exact heap_alloc_new w3 _
  have h14 := (h13.below b4).more b4.size
  have h24 := (h23.below b4).more b4.size
  have h34 := (h3.below b4).more b4.size
  have hR : RRB w4 w4.heap.size (.slice (some ⟨w3.heap.size, 0, none⟩) 4 4) [[1, 2], [3], [], [4, 5]] := by
    refine ⟨_, _, rfl, by decide, by decide, fun i hi => ?_⟩
    have hi4 : i < 4 := hi
    have ec : w4.cell? ((⟨w3.heap.size, 0, none⟩ : Addr).add i) = #[Value.slice (some ⟨w.heap.size, 0, none⟩) 2 2, .slice (some ⟨w.heap.size + 1, 0, none⟩) 1 1, .slice none 0 0, .slice (some ⟨w.heap.size + 1 + 1, 0, none⟩) 2 2][i]? := by
      rw [add0, blk_cell g4]
    match i, hi4 with
    | 0, _ => exact ⟨_, _, rfl, block_lt g4, ec.trans rfl, h14⟩
    | 1, _ => exact ⟨_, _, rfl, block_lt g4, ec.trans rfl, h24⟩
    | 2, _ => exact ⟨_, _, rfl, block_lt g4, ec.trans rfl, RB.nil _ _⟩
    | 3, _ => exact ⟨_, _, rfl, block_lt g4, ec.trans rfl, h34⟩
  clear e4 h13 h23 h3 g4 h14 h24 h34
  obtain ⟨w5, e5⟩ : ∃ w5, w5 = w4.alloc (.cells #[.bool true, .bool false, .bool true] 4) := ⟨_, rfl⟩
  rw [← e5]
  have b5 : Below w4.heap.size w4 w5 := by rw [e5]; exact blk_below _
  have g5 : w5.heap[w4.heap.size]? = some (.cells #[.bool true, .bool false, .bool true] 4 (0, 0)) := by rw [e5]; exact heap_alloc_new w4 _
  have hR5 : RRB w5 w5.heap.size (.slice (some ⟨w3.heap.size, 0, none⟩) 4 4) [[1, 2], [3], [], [4, 5]] := (hR.below b5).more b5.size
  have hO : RBo w5 w5.heap.size (.slice (some ⟨w4.heap.size, 0, none⟩) 3 3) [true, false, true] := by
    refine ⟨_, _, rfl, by decide, by decide, fun i hi => ?_⟩
    have hi4 : i < 3 := hi
    have ec : w5.cell? ((⟨w4.heap.size, 0, none⟩ : Addr).add i) = #[Value.bool true, .bool false, .bool true][i]? := by
      rw [add0, blk_cell g5]
    match i, hi4 with
    | 0, _ => exact ⟨_, rfl, block_lt g5, ec.trans rfl⟩
    | 1, _ => exact ⟨_, rfl, block_lt g5, ec.trans rfl⟩
    | 2, _ => exact ⟨_, rfl, block_lt g5, ec.trans rfl⟩
  rw [s3] at hR5
  rw [s4] at hO
  exact (keeps_w w5 _ _ _ _ 3 1 hR5 hO (by omega) (by omega)).mono fun e w' h => ((((h.up b5).up b4).up b3).up b2).up b1
theorem rb_blkm {w : World} {g : Nat} {cs : Array Value} {fr : Nat × Nat} {l : List Nat} (h : w.heap[g]? = some (.cells cs 5 fr)) (hc : cs = (bvs l).toArray) (hl : ∀ x ∈ l, x < 256) (hn : l.length ≤ maxLen) : RB w w.heap.size (.slice (some ⟨g, 0, none⟩) l.length l.length) l := by
  refine ⟨_, _, rfl, Nat.le_refl _, hn, (fun h => by cases h), fun _ => ⟨_, rfl, block_lt h, fun j hj => ?_⟩, hl⟩
  rw [add0, Joins.cell_of_block h, hc]
  simp [bvs, hj, List.getD]
theorem swaps_lit (w : World) : Calls Try.prog 5 #[.slice (some ⟨w.heap.size, 0, none⟩) 2 2, .slice (some ⟨w.heap.size + 1, 0, none⟩) 2 2, .int .i64 2, .int .i64 0, .int .i64 1]
    ((w.alloc (.cells #[.int .u8 97, .int .u8 98] 5 (2, 3))).alloc (.cells #[.int .u8 99, .int .u8 100] 5 (2, 3))) (YesPost w) := by
  obtain ⟨w1, e1⟩ : ∃ w1, w1 = w.alloc (.cells #[.int .u8 97, .int .u8 98] 5 (2, 3)) := ⟨_, rfl⟩
  rw [← e1]
  have s1 : w1.heap.size = w.heap.size + 1 := by rw [e1]; simp
  have b1 : Below w.heap.size w w1 := by rw [e1]; exact blk_below _
  have g1 : w1.heap[w.heap.size]? = some (.cells #[.int .u8 97, .int .u8 98] 5 (2, 3)) := by rw [e1]; exact heap_alloc_new w _
  have h1 : RB w1 w1.heap.size (.slice (some ⟨w.heap.size, 0, none⟩) 2 2) [97, 98] := rb_blkm (l := [97, 98]) g1 rfl (by decide) (by decide)
  clear e1
  obtain ⟨w2, e2⟩ : ∃ w2, w2 = w1.alloc (.cells #[.int .u8 99, .int .u8 100] 5 (2, 3)) := ⟨_, rfl⟩
  rw [← e2]
  have b2 : Below w1.heap.size w1 w2 := by rw [e2]; exact blk_below _
  have g2 : w2.heap[w1.heap.size]? = some (.cells #[.int .u8 99, .int .u8 100] 5 (2, 3)) := by rw [e2]; exact heap_alloc_new w1 _
  have h2 : RB w2 w2.heap.size (.slice (some ⟨w.heap.size + 1, 0, none⟩) 2 2) [99, 100] := by
    rw [← s1]
    exact rb_blkm (l := [99, 100]) g2 rfl (by decide) (by decide)
  exact (swaps_w w2 _ _ _ _ 2 0 1 ((h1.below b2).more b2.size) h2 (by omega) (by omega)).mono fun e w' h => (h.up b2).up b1
theorem lit_ab (w : World) : (convert 29 29 (.slice (some ⟨w.heap.size, 0, none⟩) 2 2)).run Try.prog (w.alloc (.cells #[.int .u8 97, .int .u8 98] 5)) = .ok (.slice (some ⟨w.heap.size, 0, none⟩) 2 2) (w.alloc (.cells #[.int .u8 97, .int .u8 98] 5 (2, 3))) :=
  Lib.run_convert_bytes_const w _ _ #[.int .u8 97, .int .u8 98] 2 2 (by kernel_rfl) (by kernel_rfl)
theorem lit_cd (w : World) (o : Obj) : (convert 29 29 (.slice (some ⟨w.heap.size + 1, 0, none⟩) 2 2)).run Try.prog ((w.alloc o).alloc (.cells #[.int .u8 99, .int .u8 100] 5)) = .ok (.slice (some ⟨w.heap.size + 1, 0, none⟩) 2 2) ((w.alloc o).alloc (.cells #[.int .u8 99, .int .u8 100] 5 (2, 3))) :=
  Joins.run_convert_bytes_const_at (w.alloc o) _ _ #[.int .u8 99, .int .u8 100] 2 2 _ (by simp) (by kernel_rfl) (by kernel_rfl)
end Go.Proofs.Ytfgbaigpmhnoaaa
