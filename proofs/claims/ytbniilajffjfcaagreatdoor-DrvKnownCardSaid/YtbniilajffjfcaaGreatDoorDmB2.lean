/- Laws of append that tell in which block the row lies then; frames with two exceptions. -/
import Derived.Test.YtbniilajffjfcaaGreatDoorBase
import Derived.Deep.RegionLaw
import Derived.OneCell
import Derived.Test.YtbniilajffjfcaaGreatDoorDmB1
import Derived.Deep.Strs
import Derived.DataReads
set_option linter.unusedVariables false
set_option linter.unusedSimpArgs false
namespace Go.Proofs.YtbniilajffjfcaaGreatDoor
open Go.ChangeShapes Go.WideShapes Go.ChangeAt Go.RowKit

/-- Where an appended row lies: where it lay, or in a new block. -/
def Moved (w : World) (v v' : Value) : Prop := v'.ownBlock = v.ownBlock ∨ ∃ g, v'.ownBlock = some g ∧ w.heap.size ≤ g
theorem Moved.refl (w : World) (v : Value) : Moved w v v := .inl rfl
theorem Moved.trans {w w1 : World} {a b c : Value} (h : Moved w a b) (h2 : Moved w1 b c) (hz : w.heap.size ≤ w1.heap.size) : Moved w a c := by
  rcases h2 with e | ⟨g, e, hg⟩
  · rcases h with e2 | ⟨g, e2, hg⟩
    · exact .inl (e.trans e2)
    · exact .inr ⟨g, e.trans e2, hg⟩
  · exact .inr ⟨g, e, Nat.le_trans hz hg⟩
theorem Moved.ne {w : World} {v v' : Value} {k : Nat} (h : Moved w v v') (hk : k < w.heap.size) (hne : v.ownBlock ≠ some k) : v'.ownBlock ≠ some k := by
  rcases h with e | ⟨g, e, hg⟩
  · rw [e]; exact hne
  · rw [e]; intro h; cases h; omega

theorem append_moved {P : Program} {w : World} (base : Nat) (t ty e : TypeId) (i : TypeInfo) (z : Value) (size bytes : Nat) (ht : P.underlying t = some (.slice e)) (hi : P.info? e = some i) (hz : i.zero = some z)
    (hsize : i.size = size) (hby : i.bytes = bytes) (hzs : z.cells.size = size) (hsz : 0 < size) (v : Value) (n : Nat) (xs : List Value) (hown : w.ownsRow base e size v n xs)
    (a : Addr) (m c : Nat) (news : List Value) (hl : news.length = m * size) (hnews : ∀ j u, news[j]? = some u → w.cell? (a.add j) = some u) (h1 : ∀ u ∈ news, u.oneCell' = true)
    (h63 : n + m ≤ maxLen) (hbytes : (n + m) * bytes ≤ 140737488355328) (v' : Value) (w' : World) (hr : (Builtin.append_ #[t, t] ty #[v, .slice (some a) m c]).run P w = .ok v' w') : Moved w v v' := by
  have hsmall : n + m ≤ 9223372036854775807 := by simp only [maxLen] at h63; omega
  subst hsize
  subst hby
  rcases hown.2 with ⟨rfl, rfl⟩ | ⟨g, cap, cur, rfl, hbg, hg, hnc, hcm, hcs, htake⟩
  · obtain ⟨v2, w2, hr2, ho2, _, hnil⟩ := run_append_own (P := P) w w.heap.size t ty e i z i.size i.bytes ht hi hz rfl rfl hzs hsz _ 0 xs ⟨hown.1, .inl ⟨rfl, rfl⟩⟩ a m c news hl hnews h1 h63 hbytes (Nat.le_refl _)
    rw [hr] at hr2
    cases hr2
    cases hb : v'.ownBlock with
    | none => exact .inl hb
    | some g => exact .inr ⟨g, hb, (ho2.lt g hb).1⟩
  · by_cases hroom : n + m ≤ cap
    · have hfit : n * i.size + news.length ≤ cur.size := by rw [hl, hcs, ← Nat.add_mul]; exact Nat.mul_le_mul_right _ hroom
      have hr2 := run_append_room (P := P) w t ty e i ht hi g n cap cur hg a m c news hl hnews h1 hroom hfit
      rw [hr] at hr2
      cases hr2
      exact .inl rfl
    · have holds : ∀ j u, xs[j]? = some u → w.cell? ((⟨g, 0, none⟩ : Addr).add j) = some u := hown.cells (g := g) rfl
      have hr2 := run_append_grow (P := P) w t ty e i z ht hi hz ⟨g, 0, none⟩ n cap xs hown.1 holds a m c news hl hnews (by omega) (by omega) (growslice_fits (by omega) hbytes)
      rw [hr] at hr2
      cases hr2
      exact .inr ⟨_, rfl, Nat.le_refl _⟩

/-- append to a row of the call's own, of what another slice holds. -/
theorem wpList_app {P : Program} {w : World} {ops : Array Oper} {rest : List Oper} {o : Oper} {a : Act} {Q : Exit → Act → World → Prop} (hgd : o.guard = none) (s x : Operand) (t : TypeId)
    (ho : o.op = .call { callee := .builtin .append, args := #[s, x], argTypes := #[t, t] })
    (base : Nat) (e : TypeId) (i : TypeInfo) (z : Value) (bytes : Nat) (ht : P.underlying t = some (.slice e)) (hi : P.info? e = some i) (hz : i.zero = some z) (hs1 : i.size = 1) (hb1 : i.bytes = bytes) (hzs : z.cells.size = 1)
    (v : Value) (n : Nat) (xs : List Value) (hs : a.eval s = v) (hown : w.ownsRow base e 1 v n xs) (ad : Addr) (m c : Nat) (news : List Value) (hx : a.eval x = .slice (some ad) m c) (hl : news.length = m)
    (hnews : ∀ j u, news[j]? = some u → w.cell? (ad.add j) = some u) (h1 : ∀ u ∈ news, u.oneCell' = true)
    (h63 : n + m ≤ maxLen) (hbytes : (n + m) * bytes ≤ 140737488355328) (hbase : base ≤ w.heap.size)
    (h : ∀ v' w', w'.ownsRow base e 1 v' (n + m) (xs ++ news) → w.grownBy w' v.ownBlock → Moved w v v' → wpList P ops Q rest (a.put o.dst v') w') : wpList P ops Q (o :: rest) a w :=
  wpList_plain hgd fun _ hK => by
    have hl1 : news.length = m * 1 := by rw [hl, Nat.mul_one]
    obtain ⟨v', w', hr, h2, h3, _⟩ := run_append_own (P := P) w base t o.type e i z 1 bytes ht hi hz hs1 hb1 hzs (by decide) v n xs hown ad m c news hl1 hnews h1 h63 hbytes hbase
    have hm := append_moved base t o.type e i z 1 bytes ht hi hz hs1 hb1 hzs (by decide) v n xs hown ad m c news hl1 hnews h1 h63 hbytes v' w' hr
    unfold Oper.wp execOp
    simp only [ho, resolve, invoke, builtin, Sem.run_bind, Sem.run_pure, Result.andThen_ok, List.map_toArray, List.map_cons, List.map_nil, hs, hx, hr]
    exact hK _ _ (h v' w' h2 h3 hm)
/-- The same, of bytes that a slice holds. -/
theorem wpList_app_holds {P : Program} {w : World} {ops : Array Oper} {rest : List Oper} {o : Oper} {a : Act} {Q : Exit → Act → World → Prop} (hgd : o.guard = none) (s x : Operand) (t : TypeId)
    (ho : o.op = .call { callee := .builtin .append, args := #[s, x], argTypes := #[t, t] })
    (base : Nat) (e : TypeId) (i : TypeInfo) (ht : P.underlying t = some (.slice e)) (hi : P.info? e = some i) (hz : i.zero = some (.int .u8 0)) (hs1 : i.size = 1) (hb1 : i.bytes = 1)
    (v : Value) (n : Nat) (xs : List Value) (hs : a.eval s = v) (hown : w.ownsRow base e 1 v n xs) (B : Nat) (A : Option Addr) (m c : Nat) (d : Nat → Nat) (hx : a.eval x = .slice A m c) (hr : Holds w B A m d) (hA : A = none → c = 0) (hmc : m ≤ c)
    (h63 : n + m ≤ maxLen) (hbytes : n + m ≤ 140737488355328) (hbase : base ≤ w.heap.size)
    (h : ∀ v' w', w'.ownsRow base e 1 v' (n + m) (xs ++ cells d m) → w.grownBy w' v.ownBlock → Moved w v v' → wpList P ops Q rest (a.put o.dst v') w') : wpList P ops Q (o :: rest) a w := by
  cases A with
  | none =>
    have hc := hA rfl
    subst hc
    obtain rfl : m = 0 := by omega
    refine wpList_append_own_none hgd s x t ho base e i 1 ht hi v n xs hs hown hx ?_
    exact h v w (by simpa [cells] using hown) (World.grownBy.refl w _) (Moved.refl w v)
  | some ad =>
    refine wpList_app hgd s x t ho base e i (.int .u8 0) 1 ht hi hz hs1 hb1 rfl v n xs hs hown ad m c (cells d m) hx (by rw [cells_len]) ?_ ?_ h63 (by omega) hbase h
    · intro j u hu
      have hj : j < m := by
        have := (List.getElem?_eq_some_iff.1 hu).1
        rwa [cells_len] at this
      obtain ⟨ad', e', _, hc⟩ := hr (by omega)
      cases e'
      rw [cells_get _ _ _ hj] at hu
      rw [hc j hj, hu]
    · intro u hu
      simp [cells] at hu
      obtain ⟨_, _, rfl⟩ := hu
      rfl

/-- All blocks stand but block g, and the block r. -/
structure KeptBut (w w' : World) (g : Nat) (r : Option Nat) : Prop where
  os : w'.os = w.os
  tape : w'.tape = w.tape
  output : w'.output = w.output
  size : w.heap.size ≤ w'.heap.size
  block : ∀ k, k < w.heap.size → k ≠ g → some k ≠ r → w'.heap[k]? = w.heap[k]?
theorem KeptBut.refl (w : World) (g : Nat) (r : Option Nat) : KeptBut w w g r := ⟨rfl, rfl, rfl, Nat.le_refl _, fun _ _ _ _ => rfl⟩
theorem KeptBut.grown {w w1 w2 : World} {g : Nat} {v v1 : Value} (h : KeptBut w w1 g v.ownBlock) (hm : Moved w v v1) (h2 : w1.grownBy w2 v1.ownBlock) : KeptBut w w2 g v.ownBlock :=
  ⟨h2.os.trans h.os, h2.tape.trans h.tape, h2.output.trans h.output, Nat.le_trans h.size h2.size, fun k hk h0 h1 =>
    (h2.block k (Nat.lt_of_lt_of_le hk h.size) (fun e => hm.ne hk (fun e' => h1 e'.symm) e.symm)).trans (h.block k hk h0 h1)⟩
theorem KeptBut.setCell {w w1 : World} {g : Nat} {r : Option Nat} (h : KeptBut w w1 g r) {p : Addr} (hp : p.block = g) (u : Value) : KeptBut w (w1.setCell p u) g r :=
  ⟨h.os, h.tape, h.output, by simp; exact h.size, fun k hk h0 h1 => (heap_setCell_other w1 p k u (by rw [hp]; exact h0)).trans (h.block k hk h0 h1)⟩
theorem KeptBut.drew {w w1 : World} {g : Nat} {r : Option Nat} (h : KeptBut w w1 g r) : KeptBut w w1.drew g r := ⟨h.os, h.tape, h.output, h.size, h.block⟩
theorem KeptBut.alloc {w w1 : World} {g : Nat} {r : Option Nat} (h : KeptBut w w1 g r) (o : Obj) : KeptBut w (w1.alloc o) g r :=
  ⟨h.os, h.tape, h.output, by simp; exact Nat.le_succ_of_le h.size, fun k hk h0 h1 => (old_block w1 o k (Nat.lt_of_lt_of_le hk h.size)).trans (h.block k hk h0 h1)⟩
theorem KeptBut.trans {w w1 w2 : World} {g : Nat} {v v1 : Value} (h : KeptBut w w1 g v.ownBlock) (hm : Moved w v v1) (h2 : KeptBut w1 w2 g v1.ownBlock) : KeptBut w w2 g v.ownBlock :=
  ⟨h2.os.trans h.os, h2.tape.trans h.tape, h2.output.trans h.output, Nat.le_trans h.size h2.size, fun k hk h0 h1 =>
    (h2.block k (Nat.lt_of_lt_of_le hk h.size) h0 (fun e => hm.ne hk (fun e' => h1 e'.symm) e.symm)).trans (h.block k hk h0 h1)⟩
theorem KeptBut.below {w w1 : World} {g B : Nat} {r : Option Nat} {W : World} (hb : Below B W w) (h : KeptBut w w1 g r) (hg : B ≤ g) (hr : ∀ k, r = some k → B ≤ k) (hB : B ≤ w.heap.size) : Below B W w1 :=
  ⟨h.os.trans hb.os, h.tape.trans hb.tape, h.output.trans hb.output, Nat.le_trans hb.size h.size, fun k hk =>
    (h.block k (Nat.lt_of_lt_of_le hk hB) (by omega) (fun e => by have := hr k e.symm; omega)).trans (hb.block k hk)⟩
theorem KeptBut.of_below {w w1 : World} (g : Nat) (r : Option Nat) (h : Below w.heap.size w w1) : KeptBut w w1 g r := ⟨h.os, h.tape, h.output, h.size, fun k hk _ _ => h.block k hk⟩
/-- One row behind another one. -/
def joinD (n : Nat) (d e : Nat → Nat) (i : Nat) : Nat := if i < n then d i else e (i - n)
theorem join_cells (n m : Nat) (d e : Nat → Nat) : cells d n ++ cells e m = cells (joinD n d e) (n + m) :=
  cells_append _ _ _ _ _ (fun i hi => by rw [joinD, if_pos hi]) fun i _ => by rw [joinD, if_neg (by omega)]; congr 1; omega
theorem join_lt (n : Nat) (d e : Nat → Nat) (hd : ∀ i, d i < 256) (he : ∀ i, e i < 256) (i : Nat) : joinD n d e i < 256 := by
  unfold joinD; split; exact hd _; exact he _
theorem join_at (n : Nat) (d e : Nat → Nat) (j : Nat) : joinD n d e (n + j) = e j := by rw [joinD, if_neg (by omega), Nat.add_sub_cancel_left]
theorem join_low (n : Nat) (d e : Nat → Nat) (j : Nat) (h : j < n) : joinD n d e j = d j := by rw [joinD, if_pos h]
theorem cells_congr (d e : Nat → Nat) (n : Nat) (h : ∀ i, i < n → d i = e i) : cells d n = cells e n := by
  unfold cells
  exact List.map_congr_left fun i hi => by rw [h i (by simpa using hi)]
end Go.Proofs.YtbniilajffjfcaaGreatDoor

/- What a step may change: all blocks but those of a set stand. -/
namespace Go.Proofs.YtbniilajffjfcaaGreatDoor
open Go.RowKit Go.BigFrame

structure Ch (w w' : World) (M : Nat → Prop) : Prop where
  os : w'.os = w.os
  tape : w'.tape = w.tape
  output : w'.output = w.output
  size : w.heap.size ≤ w'.heap.size
  block : ∀ k, k < w.heap.size → ¬ M k → w'.heap[k]? = w.heap[k]?
theorem Ch.refl (w : World) (M : Nat → Prop) : Ch w w M := ⟨rfl, rfl, rfl, Nat.le_refl _, fun _ _ _ => rfl⟩
theorem Ch.weak {w w' : World} {M M' : Nat → Prop} (h : Ch w w' M) (hm : ∀ k, k < w.heap.size → M k → M' k) : Ch w w' M' :=
  ⟨h.os, h.tape, h.output, h.size, fun k hk hn => h.block k hk fun c => hn (hm k hk c)⟩
theorem Ch.trans {w w1 w2 : World} {M M' : Nat → Prop} (h : Ch w w1 M) (h2 : Ch w1 w2 M') (hm : ∀ k, k < w.heap.size → M' k → M k) : Ch w w2 M :=
  ⟨h2.os.trans h.os, h2.tape.trans h.tape, h2.output.trans h.output, Nat.le_trans h.size h2.size, fun k hk hn => (h2.block k (Nat.lt_of_lt_of_le hk h.size) fun c => hn (hm k hk c)).trans (h.block k hk hn)⟩
theorem Ch.setCell {w w1 : World} {M : Nat → Prop} (h : Ch w w1 M) {p : Addr} (hp : M p.block) (u : Value) : Ch w (w1.setCell p u) M :=
  ⟨h.os, h.tape, h.output, by simpa using h.size, fun k hk hn => (Below.heap_setCell _ _ _ _ (fun e => hn (by rw [e]; exact hp))).trans (h.block k hk hn)⟩
theorem Ch.alloc {w w1 : World} {M : Nat → Prop} (h : Ch w w1 M) (o : Obj) : Ch w (w1.alloc o) M :=
  ⟨h.os, h.tape, h.output, Nat.le_trans h.size (by simp), fun k hk hn => (Below.heap_alloc _ _ _ (Nat.lt_of_lt_of_le hk h.size)).trans (h.block k hk hn)⟩
theorem Ch.drewN {w w1 : World} {M : Nat → Prop} (h : Ch w w1 M) (q : Nat) : Ch w (w1.drewN q) M := by
  induction q with
  | zero => exact h
  | succ q ih => exact ⟨ih.os, ih.tape, ih.output, ih.size, ih.block⟩
theorem Ch.drew {w w1 : World} {M : Nat → Prop} (h : Ch w w1 M) : Ch w w1.drew M := ⟨h.os, h.tape, h.output, h.size, h.block⟩
theorem Ch.grown {w w1 w2 : World} {M : Nat → Prop} {row : Option Nat} (h : Ch w w1 M) (h2 : w1.grownBy w2 row) (hr : ∀ k, k < w.heap.size → row = some k → M k) : Ch w w2 M :=
  ⟨h2.os.trans h.os, h2.tape.trans h.tape, h2.output.trans h.output, Nat.le_trans h.size h2.size, fun k hk hn => (h2.block k (Nat.lt_of_lt_of_le hk h.size) fun c => hn (hr k hk c.symm)).trans (h.block k hk hn)⟩
theorem Ch.of_below {w w' : World} {B : Nat} (h : Below B w w') (M : Nat → Prop) (hm : ∀ k, k < w.heap.size → B ≤ k → M k) : Ch w w' M :=
  ⟨h.os, h.tape, h.output, h.size, fun k hk hn => h.block k (by
    by_cases c : B ≤ k
    · exact absurd (hm k hk c) hn
    · omega)⟩
theorem Ch.below {w w' : World} {M : Nat → Prop} (h : Ch w w' M) {B : Nat} (hB : B ≤ w.heap.size) (hm : ∀ k, M k → B ≤ k) : Below B w w' :=
  ⟨h.os, h.tape, h.output, h.size, fun k hk => h.block k (by omega) fun c => by have := hm k c; omega⟩
theorem Ch.same {w w' : World} {M : Nat → Prop} (h : Ch w w' M) (S : Nat → Prop) (hs : ∀ b, b < w.heap.size → S b → ¬ M b) : SameS w w' S :=
  ⟨h.size, fun b hb hS => h.block b hb (hs b hb hS)⟩
theorem Ch.cell {w w' : World} {M : Nat → Prop} (h : Ch w w' M) {p : Addr} {v : Value} (hc : w.cell? p = some v) (hm : ¬ M p.block) : w'.cell? p = some v :=
  (World.cell?_of_block (h.block p.block (World.block_lt_of_cell? w p hc) hm)).trans hc
theorem Ch.heap {w w' : World} {M : Nat → Prop} (h : Ch w w' M) {g : Nat} {o : Obj} (hc : w.heap[g]? = some o) (hm : ¬ M g) : w'.heap[g]? = some o :=
  (h.block g (block_lt hc) hm).trans hc
theorem Ch.own {w w' : World} {M : Nat → Prop} (h : Ch w w' M) {base size n : Nat} {e : TypeId} {v : Value} {xs : List Value} (ho : w.ownsRow base e size v n xs) (hm : ∀ b, v.ownBlock = some b → ¬ M b) : w'.ownsRow base e size v n xs := by
  obtain ⟨hl, hz | ⟨g, cap, cur, rfl, hg, hgg, h2⟩⟩ := ho
  · exact ⟨hl, .inl hz⟩
  · exact ⟨hl, .inr ⟨g, cap, cur, rfl, hg, h.heap hgg (hm g rfl), h2⟩⟩
/-- One store into a block that is known whole. -/
theorem blk_set {w : World} {g : Nat} {T : TypeId} {cs : Array Value} (h : w.heap[g]? = some (.cells cs T (0, 0))) (i : Nat) (v : Value) : (w.setCell ⟨g, i, none⟩ v).heap[g]? = some (.cells (cs.setIfInBounds i v) T (0, 0)) :=
  heap_setCell_same w g i cs T v h
theorem blk_cell {w : World} {g : Nat} {T : TypeId} {cs : Array Value} (h : w.heap[g]? = some (.cells cs T (0, 0))) (i : Nat) : w.cell? ⟨g, i, none⟩ = cs[i]? := cell_of_row _ _ _ _ _ _ h
theorem blk_free {w : World} {g : Nat} {T : TypeId} {cs : Array Value} (h : w.heap[g]? = some (.cells cs T (0, 0))) (i : Nat) : w.frozen? ⟨g, i, none⟩ = false := frozen_of_row _ _ _ _ _ h
theorem heap_drewN (w : World) (q : Nat) : (w.drewN q).heap = w.heap := by
  induction q with
  | zero => rfl
  | succ q ih => exact ih
/-- A row that is not nil: where it lies. -/
theorem own_at {w : World} {base n : Nat} {e : TypeId} {v : Value} {xs : List Value} (h : w.ownsRow base e 1 v n xs) (hn : 0 < n) : ∃ g cap, v = .slice (some ⟨g, 0, none⟩) n cap ∧ base ≤ g ∧ g < w.heap.size ∧ n ≤ cap ∧ cap ≤ maxLen := by
  rcases h.2 with ⟨_, e⟩ | ⟨g, cap, cur, rfl, hg, hgg, hnc, hcm, _, _⟩
  · omega
  · exact ⟨g, cap, rfl, hg, block_lt hgg, hnc, hcm⟩
/-- The row's first n cells are a row too. -/
theorem own_cut {w : World} {base n m cap : Nat} {e : TypeId} {p : Option Addr} {xs : List Value} (h : w.ownsRow base e 1 (.slice p n cap) n xs) (hp : p ≠ none) (hm : m ≤ n) : w.ownsRow base e 1 (.slice p m cap) m (xs.take m) := by
  have hl := h.1
  rcases h.2 with ⟨e', _⟩ | ⟨g, cap', cur, e', hg, hgg, hnc, hcm, hcs, htake⟩
  · simp only [Value.slice.injEq] at e'; exact absurd e'.1 hp
  · simp only [Value.slice.injEq, true_and] at e'
    obtain ⟨rfl, rfl⟩ := e'
    refine ⟨by rw [List.length_take]; omega, .inr ⟨g, cap, cur, rfl, hg, hgg, by omega, hcm, hcs, ?_⟩⟩
    rw [← htake, List.take_take]
    congr 1
    omega
end Go.Proofs.YtbniilajffjfcaaGreatDoor

/- Slices of bytes, and numbers, out of what a cell reads as. -/
namespace Go.Proofs.YtbniilajffjfcaaGreatDoor
open Go.ChangeShapes Go.WideShapes Go.ChangeAt Go.RowKit

theorem trod_bytes {H : Type} {enc : TypeId × Value → H} {P : Program} {w : World} {base : Nat} {sp : Nat → Bool} {held : Bool} {fuel : Nat} {T e : TypeId} {v : Value} {x : DataW H × List MemPlace}
    (hT : P.underlying T = some (.slice e)) (he : P.underlying e = some (.int .u8)) (h1 : P.cellsOf e = 1)
    (hf : DataW.trod enc P w base sp held fuel T [v] = some x) : ∃ (d : Nat → Nat) (n cap : Nat) (A : Option Addr), (∀ i, d i < 256) ∧ n ≤ cap ∧ cap ≤ maxLen ∧ Holds w w.heap.size A n d ∧ (A = none → cap = 0) ∧ v = .slice A n cap := by
  rcases Go.Deep.open_slice1 hT h1 hf with ⟨hcs, _⟩ | ⟨a, n, cap, m, k, V, D, Pl, hcs, _, hl, hm, hmm, _, hel⟩
  · refine ⟨fun _ => 0, 0, 0, none, fun _ => Nat.zero_lt_succ _, Nat.le_refl _, by decide, fun h => absurd h (by omega), fun _ => rfl, by simpa using hcs⟩
  · have hv : v = .slice (some a) n cap := by simpa using hcs
    subst hv
    have hnm : n ≤ m := by rw [hmm]; split <;> omega
    have hc : ∀ i, i < n → ∃ b : Nat, b < 256 ∧ w.cell? (a.add i) = some (.int .u8 (b : Int)) := by
      intro i hi
      obtain ⟨h2, h3⟩ := hel i (by omega)
      obtain ⟨b, eb, _, wb⟩ := DataW.trod_int he h3
      have hb := bounds_u8 wb
      refine ⟨b.toNat, by omega, ?_⟩
      simp at eb
      rw [h2, eb]
      congr 2
      omega
    refine ⟨fun i => if h : i < n then Classical.choose (hc i h) else 0, n, cap, some a, fun i => ?_, hl, hm, fun hn => ⟨a, rfl, ?_, fun j hj => ?_⟩, (fun h => by cases h), rfl⟩
    · dsimp only
      split
      · rename_i h; exact (Classical.choose_spec (hc i h)).1
      · omega
    · obtain ⟨b, _, hb⟩ := hc 0 hn
      have := block_lt_of_cell hb
      rwa [add_block] at this
    · have := (Classical.choose_spec (hc j hj)).2
      rw [this]
      simp [hj]
theorem trod_num {H : Type} {enc : TypeId × Value → H} {P : Program} {w : World} {base : Nat} {sp : Nat → Bool} {held : Bool} {fuel : Nat} {T : TypeId} {k : IntKind} {v : Value} {x : DataW H × List MemPlace}
    (hT : P.underlying T = some (.int k)) (hf : DataW.trod enc P w base sp held fuel T [v] = some x) : ∃ n : Int, v = .int k n ∧ (Lit.int k n).wf = true := by
  obtain ⟨n, e, _, hw⟩ := DataW.trod_int hT hf
  exact ⟨n, by simpa using e, hw⟩
theorem u64_of (a : Int) (h : (Lit.int .u64 a).wf = true) : ∃ c : Nat, c < 18446744073709551616 ∧ a = (c : Int) := by
  have hb : 0 ≤ a ∧ a ≤ 18446744073709551615 := by simpa [Lit.wf, IntKind.min, IntKind.max, IntKind.signed, IntKind.bits] using h
  exact ⟨a.toNat, by omega, by omega⟩
theorem u8_of (a : Int) (h : (Lit.int .u8 a).wf = true) : ∃ c : Nat, c < 256 ∧ a = (c : Int) := by
  have hb := bounds_u8 h
  exact ⟨a.toNat, by omega, by omega⟩
end Go.Proofs.YtbniilajffjfcaaGreatDoor
