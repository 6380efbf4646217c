/- cnf: formulas, clauses, models that came in. -/
import Derived.Test.YtapaoccpbcjgeaaCnmM
import Derived.Test.YtapaoccpbcjgeaaBasB
import Derived.Deep.SlicePairs
import Derived.Lib.SmallJoins
import Derived.Test.YtapaoccpbcjgeaaCnmO
namespace Go.Proofs.Ytapaoccpbcjgeaa
open Go.ChangeShapes Go.WideShapes Go.ChangeAt Go.RowKit Go.BigFrame

theorem trod_ints {H : Type} {enc : TypeId × Value → H} {P : Program} {w : World} {base : Nat} {sp : Nat → Bool} {held : Bool} {fuel : Nat} {T e : TypeId} {v : Value} {x : DataW H × List MemPlace}
    (hT : P.underlying T = some (.slice e)) (he : P.underlying e = some (.int .i64)) (h1 : P.cellsOf e = 1)
    (hf : DataW.trod enc P w base sp held fuel T [v] = some x) : ∃ xs : List Int, Reads w w.heap.size v (ints xs) := by
  rcases Go.Deep.open_slice1 hT h1 hf with ⟨hcs, _⟩ | ⟨a, n, cap, m, k, V, D, Pl, hcs, _, hl, hm, hmm, _, hel⟩
  · have hv : v = .slice none 0 0 := by simpa using hcs
    subst hv
    exact ⟨[], Reads.nil _ _⟩
  · have hv : v = .slice (some a) n cap := by simpa using hcs
    subst hv
    have hnm : n ≤ m := by rw [hmm]; split <;> omega
    have hc : ∀ i, i < n → ∃ z : Int, w.cell? (a.add i) = some (.int .i64 z) := by
      intro i hi
      obtain ⟨h2, h3⟩ := hel i (by omega)
      obtain ⟨b, eb, _, _⟩ := DataW.trod_int he h3
      exact ⟨b, by rw [h2]; simpa using eb⟩
    obtain ⟨f, hfz⟩ : ∃ f : Nat → Int, ∀ i, i < n → w.cell? (a.add i) = some (.int .i64 (f i)) := ⟨fun i => if h : i < n then Classical.choose (hc i h) else 0, fun i hi => by
      have := Classical.choose_spec (hc i hi)
      simp only [hi, dif_pos]
      exact this⟩
    have hlen : (ints ((List.range n).map f)).length = n := by simp [ints]
    refine ⟨(List.range n).map f, some a, cap, by rw [hlen], by rw [hlen]; exact hl, hm, (fun h => by cases h), fun hn => ⟨a, rfl, ?_, fun j u hu => ?_⟩⟩
    · rw [hlen] at hn
      have := block_lt_of_cell (hfz 0 hn)
      rwa [add_block] at this
    · have hj : j < n := by have := (List.getElem?_eq_some_iff.1 hu).1; omega
      rw [hfz j hj, ← hu]
      simp [ints, hj]
theorem trod_bools {H : Type} {enc : TypeId × Value → H} {P : Program} {w : World} {base : Nat} {sp : Nat → Bool} {held : Bool} {fuel : Nat} {T e : TypeId} {v : Value} {x : DataW H × List MemPlace}
    (hT : P.underlying T = some (.slice e)) (he : P.underlying e = some .bool) (h1 : P.cellsOf e = 1)
    (hf : DataW.trod enc P w base sp held fuel T [v] = some x) : ∃ ms : List Bool, BoolR w AllB v ms := by
  rcases Go.Deep.open_slice1 hT h1 hf with ⟨hcs, _⟩ | ⟨a, n, cap, m, k, V, D, Pl, hcs, _, hl, hm, hmm, _, hel⟩
  · have hv : v = .slice none 0 0 := by simpa using hcs
    subst hv
    exact ⟨[], RdS.nil w AllB⟩
  · have hv : v = .slice (some a) n cap := by simpa using hcs
    subst hv
    have hnm : n ≤ m := by rw [hmm]; split <;> omega
    have hc : ∀ i, i < n → ∃ z : Bool, w.cell? (a.add i) = some (.bool z) := by
      intro i hi
      obtain ⟨h2, h3⟩ := hel i (by omega)
      obtain ⟨b, eb, _⟩ := DataW.trod_bool he h3
      exact ⟨b, by rw [h2]; simpa using eb⟩
    obtain ⟨f, hfz⟩ : ∃ f : Nat → Bool, ∀ i, i < n → w.cell? (a.add i) = some (.bool (f i)) := ⟨fun i => if h : i < n then Classical.choose (hc i h) else false, fun i hi => by
      have := Classical.choose_spec (hc i hi)
      simp only [hi, dif_pos]
      exact this⟩
    have hlen : ((List.range n).map f).length = n := by simp
    refine ⟨(List.range n).map f, some a, cap, by rw [hlen], by rw [hlen]; exact hl, hm, (fun h => by cases h), fun hn => ⟨a, rfl, ?_, trivial, fun j u hu => ?_⟩⟩
    · rw [hlen] at hn
      have := block_lt_of_cell (hfz 0 hn)
      rwa [add_block] at this
    · have hj : j < n := by have := (List.getElem?_eq_some_iff.1 hu).1; simpa [bools] using this
      rw [hfz j hj, ← hu]
      simp [bools, hj]
theorem cellsInt : Try.prog.cellsOf 3 = 1 := by kernel_rfl
theorem cellsBool : Try.prog.cellsOf 4 = 1 := by kernel_rfl
theorem cellsIntRow : Try.prog.cellsOf 35 = 1 := by kernel_rfl
theorem cellsF : Try.prog.cellsOf 24 = 2 := by kernel_rfl
theorem trod_irow {H : Type} {enc : TypeId × Value → H} {w : World} {base : Nat} {sp : Nat → Bool} {held : Bool} {fuel : Nat} {v : Value} {x : DataW H × List MemPlace}
    (hf : DataW.trod enc Try.prog w base sp held fuel 35 [v] = some x) : ∃ row : List Int, IRow w AllB v row := by
  obtain ⟨xs, h⟩ := trod_ints Try.underlying35 Try.underlying3 cellsInt hf
  exact ⟨xs, RdS.of_reads h (ints_len xs)⟩
theorem trod_rows {H : Type} {enc : TypeId × Value → H} {w : World} {base : Nat} {sp : Nat → Bool} {held : Bool} {fuel : Nat} {T : TypeId} {v : Value} {x : DataW H × List MemPlace} (hT : Try.prog.underlying T = some (.slice 35))
    (hf : DataW.trod enc Try.prog w base sp held fuel T [v] = some x) : ∃ r : List (List Int), RowsAt w v r := by
  rcases Go.Deep.open_slice1 hT cellsIntRow hf with ⟨hcs, _⟩ | ⟨a, n, cap, m, k, V, D, Pl, hcs, _, hl, hm, hmm, _, hel⟩
  · have hv : v = .slice none 0 0 := by simpa using hcs
    subst hv
    exact ⟨[], [], RdS.nil w AllB, ItemsS.nil _ _ _⟩
  · have hv : v = .slice (some a) n cap := by simpa using hcs
    subst hv
    have hnm : n ≤ m := by rw [hmm]; split <;> omega
    have hc : ∀ i, i < n → ∃ row : List Int, w.cell? (a.add i) = some (V i) ∧ IRow w AllB (V i) row := by
      intro i hi
      obtain ⟨h2, h3⟩ := hel i (by omega)
      obtain ⟨row, hrow⟩ := trod_irow h3
      exact ⟨row, h2, hrow⟩
    obtain ⟨f, hfz⟩ : ∃ f : Nat → List Int, ∀ i, i < n → w.cell? (a.add i) = some (V i) ∧ IRow w AllB (V i) (f i) := ⟨fun i => if h : i < n then Classical.choose (hc i h) else [], fun i hi => by
      have := Classical.choose_spec (hc i hi)
      simp only [hi, dif_pos]
      exact this⟩
    have hlen : ((List.range n).map f).length = n := by simp
    refine ⟨(List.range n).map f, (List.range n).map V, ⟨some a, cap, by rw [hlen], by rw [hlen]; exact hl, hm, (fun h => by cases h), fun hn => ⟨a, rfl, ?_, trivial, fun j u hu => ?_⟩⟩, by simp, fun j u y hu hy => ?_⟩
    · rw [hlen] at hn
      have := block_lt_of_cell (hfz 0 hn).1
      rwa [add_block] at this
    · have hj : j < n := by have := (List.getElem?_eq_some_iff.1 hu).1; simpa using this
      rw [(hfz j hj).1, ← hu]
      simp [hj]
    · have hj : j < n := by have := (List.getElem?_eq_some_iff.1 hu).1; simpa using this
      simp [hj] at hu hy
      subst hu; subst hy
      exact (hfz j hj).2
theorem structF : ∃ f0 f1, Try.prog.underlying 24 = some (.struct #[f0, f1]) ∧ f0.type = 3 ∧ f1.type = 22 ∧ Go.Deep.oneCellFields Try.prog #[f0, f1] = true :=
  ⟨_, _, Try.underlying24, rfl, rfl, by kernel_rfl⟩
set_option maxRecDepth 100000 in
theorem open_f {H : Type} {enc : TypeId × Value → H} {w : World} {base : Nat} {sp : Nat → Bool} {held : Bool} {r : Reach} {b0 : Nat} {v : Value} {y : DataW H} {ps : List MemPlace} (_lt : ∀ x ∈ ps, x.block < w.heap.size)
    (hval : Value.okWide Try.prog w r b0 24 v) (hd : DataW.Trod enc Try.prog w base sp held 24 v y ps) :
    ∃ (n : Int) (a : Value) (cs : List (List Int)), RowsAt w a cs ∧ v = .agg #[.int .i64 n, a] := by
  obtain ⟨f0, f1, hS, t0, t1, ho⟩ := structF
  obtain ⟨v0, v1, y0, y1, n, rfl, _, _, h0, h1⟩ := Joins.open_agg2 hS ho cellsF hval hd
  rw [t0] at h0
  rw [t1] at h1
  obtain ⟨z, ez, _⟩ := DataW.trod_int Try.underlying3 h0
  obtain ⟨cs, hR⟩ := trod_rows Try.underlying22 h1
  refine ⟨z, v1, cs, hR, ?_⟩
  have : v0 = .int .i64 z := by simpa using ez
  rw [this]
set_option maxRecDepth 100000 in
theorem open_row {H : Type} {enc : TypeId × Value → H} {w : World} {base : Nat} {sp : Nat → Bool} {held : Bool} {r : Reach} {b0 : Nat} {v : Value} {y : DataW H} {ps : List MemPlace} (_lt : ∀ x ∈ ps, x.block < w.heap.size)
    (hval : Value.okWide Try.prog w r b0 35 v) (hd : DataW.Trod enc Try.prog w base sp held 35 v y ps) :
    ∃ (a : Value) (c : List Int), IRow w AllB a c ∧ a = v := by
  obtain ⟨A, n, cap, rfl⟩ := okWide_slice Try.underlying35 hval
  obtain ⟨fuel, hf⟩ := hd
  obtain ⟨c, hR⟩ := trod_irow hf
  exact ⟨_, c, hR, rfl⟩
set_option maxRecDepth 100000 in
theorem open_model {H : Type} {enc : TypeId × Value → H} {w : World} {base : Nat} {sp : Nat → Bool} {held : Bool} {r : Reach} {b0 : Nat} {v : Value} {y : DataW H} {ps : List MemPlace} (_lt : ∀ x ∈ ps, x.block < w.heap.size)
    (hval : Value.okWide Try.prog w r b0 40 v) (hd : DataW.Trod enc Try.prog w base sp held 40 v y ps) :
    ∃ (a : Value) (ms : List Bool), BoolR w AllB a ms ∧ a = v := by
  obtain ⟨A, n, cap, rfl⟩ := okWide_slice Try.underlying40 hval
  obtain ⟨fuel, hf⟩ := hd
  obtain ⟨ms, hR⟩ := trod_bools Try.underlying40 Try.underlying4 cellsBool hf
  exact ⟨_, ms, hR, rfl⟩
end Go.Proofs.Ytapaoccpbcjgeaa

/- cnf: the chapter's examples. -/
namespace Go.Proofs.Ytapaoccpbcjgeaa
open Go.RowKit Go.BigFrame
open Cnf (litB countN leftL heldB firstsI unitsF bothB IsNorm)

theorem irow_new (W : World) (cs : Array Value) (T : TypeId) (l : List Int) (h : cs.toList = ints l) (hn : l.length ≤ 4000000) : IRow (W.alloc (.cells cs T)) AllB (.slice (some ⟨W.heap.size, 0, none⟩) l.length l.length) l :=
  ⟨_, _, rfl, Nat.le_refl _, by unfold maxLen; omega, (fun h => by cases h), fun _ => ⟨_, rfl, by simp, trivial, fun j u hu => row_cells (heap_alloc_new W (.cells cs T)) j u (by rw [← hu, ← h]; simp)⟩⟩
theorem IRow.alloc {w : World} {v : Value} {l : List Int} (h : IRow w AllB v l) (o : Obj) : IRow (w.alloc o) AllB v l := RdS.below h ((Below.refl _ _).alloc (Nat.le_refl _) _)
/-- A row of rows that was just built. -/
theorem rows_new (W : World) (vs : Array Value) (T : TypeId) (r : List (List Int)) (hn : vs.size = r.length) (hl : r.length ≤ 1000000) (h : ∀ (k : Nat) (u : Value) (x : List Int), vs[k]? = some u → r[k]? = some x → IRow W AllB u x) : RowsAt (W.alloc (.cells vs T)) (.slice (some ⟨W.heap.size, 0, none⟩) r.length r.length) r := by
  refine ⟨vs.toList, ⟨_, _, rfl, Nat.le_refl _, by unfold maxLen; omega, (fun h => by cases h), fun _ => ⟨_, rfl, by simp, trivial, fun j u hu => row_cells (heap_alloc_new W (.cells vs T)) j u (by rw [← hu]; simp)⟩⟩, by simpa using hn, fun k u x hu hx => (h k u x (by rw [← hu]; simp) hx).alloc _⟩
theorem boolr_new (W : World) (cs : Array Value) (T : TypeId) (l : List Bool) (h : cs.toList = bools l) (hn : l.length ≤ 4000000) : BoolR (W.alloc (.cells cs T)) AllB (.slice (some ⟨W.heap.size, 0, none⟩) l.length l.length) l :=
  ⟨_, _, rfl, Nat.le_refl _, by unfold maxLen; omega, (fun h => by cases h), fun _ => ⟨_, rfl, by simp, trivial, fun j u hu => row_cells (heap_alloc_new W (.cells cs T)) j u (by rw [← hu, ← h]; simp)⟩⟩
def UnitIs (S : List Int) (b : Bool) (w : World) (e : Ending) (w' : World) : Prop :=
  ∃ A cap, e = .returned (.tuple #[.slice A S.length cap, .bool b]) ∧ Below w.heap.size w w' ∧ IRow w' AllB (.slice A S.length cap) S
theorem unit_is (v : Int) (a lv : Value) (cs : List (List Int)) (lits S : List Int) (b : Bool) (w : World) (ha : RowsAt w a cs) (hl : IRow w AllB lv lits) (hs : countN cs ≤ 4000000) (hn : cs.length ≤ 1000000) (hln : lits.length ≤ 1000000) (hg : goodB v cs lits = true) (hu : unitsF cs (firstsI lits) = (S, b)) :
    Calls Try.prog 22 #[.agg #[.int .i64 v, a], lv] w (UnitIs S b w) := by
  refine (unit_any v a lv cs lits w ha hl hs hn hln).mono ?_
  rintro e w' ⟨hb, ⟨h, _⟩ | ⟨_, u, rfl, ho⟩⟩
  · rw [hg] at h; cases h
  · rw [hu] at ho ⊢
    obtain ⟨A, cap, rfl⟩ := own_form ho
    exact ⟨A, cap, rfl, hb, RdS.all (RdS.own ho)⟩
theorem norm_is (a : Value) (c l : List Int) (w : World) (ha : IRow w AllB a c) (hn : c.length ≤ 4000000) (h1 : normOk c = true) (h2 : bothB c = false) (hl : IsNorm c l) : Calls Try.prog 17 #[a] w (UnitIs l false w) := by
  refine (norm_any a c w ha hn).mono ?_
  rintro e w' ⟨hb, ⟨h, _⟩ | ⟨_, h, _⟩ | ⟨_, _, u, l2, hl2, rfl, ho⟩⟩
  · rw [h1] at h; cases h
  · rw [h2] at h; cases h
  · rw [hl2.unique hl] at ho
    obtain ⟨A, cap, rfl⟩ := own_form ho
    exact ⟨A, cap, rfl, hb, RdS.all (RdS.own ho)⟩
theorem norm_two (a : Value) (c : List Int) (w : World) (ha : IRow w AllB a c) (hn : c.length ≤ 4000000) (h1 : normOk c = true) (h2 : bothB c = true) : Calls Try.prog 17 #[a] w fun e w' => e = .returned (.tuple #[.slice none 0 0, .bool true]) ∧ Below w.heap.size w w' := by
  refine (norm_any a c w ha hn).mono ?_
  rintro e w' ⟨hb, ⟨h, _⟩ | ⟨_, _, rfl⟩ | ⟨_, h, _⟩⟩
  · rw [h1] at h; cases h
  · exact ⟨rfl, hb⟩
  · rw [h2] at h; cases h
theorem same_is (a b : Value) (xs : List Int) (w : World) (ha : IRow w AllB a xs) (hb : IRow w AllB b xs) : Calls Try.prog 19 #[a, b] w fun e w' => e = .returned (.bool true) ∧ ∃ nq, w' = w.drewN nq := by
  refine (sameInts_any a b xs xs w.heap.size w (RdS.reads (S := AllB) (by rw [ints_len]; exact ha)) (RdS.reads (S := AllB) (by rw [ints_len]; exact hb))).mono ?_
  rintro e w' ⟨rfl, h⟩
  exact ⟨by simp, h⟩
def exF : List (List Int) := [[1, 2], [-1, 3], [-3, -2]]
theorem ex1 : goodB 3 exF [1] = true ∧ goodB 3 exF [-1] = true ∧ goodB 3 exF [1, 2] = true := by decide
theorem ex2 : unitsF exF (firstsI [1]) = ([1, 3, -2], false) ∧ unitsF exF (firstsI [-1]) = ([-1, 2, -3], false) ∧ unitsF exF (firstsI [1, 2]) = ([1, 2, 3], true) := by decide
theorem ex3 : normOk [3, 1, 3] = true ∧ bothB [3, 1, 3] = false ∧ normOk [1, -1] = true ∧ bothB [1, -1] = true := by decide
theorem ex4 : IsNorm [3, 1, 3] [1, 3] := ⟨by unfold Cnf.Norml; decide, fun x => by simp; omega⟩
theorem ex5 : holdsN 3 exF [true, false, true] = true ∧ countN exF = 6 := by decide
end Go.Proofs.Ytapaoccpbcjgeaa

/- cnf: works answers true. -/
namespace Go.Proofs.Ytapaoccpbcjgeaa
open Go.RowKit Go.BigFrame
open Cnf (litB countN leftL heldB firstsI unitsF bothB IsNorm)

theorem built_f (W : World) : ∃ w1, w1 = ((((W.alloc (.cells #[.int .i64 1, .int .i64 2] 3)).alloc (.cells #[.int .i64 (-1), .int .i64 3] 3)).alloc (.cells #[.int .i64 (-3), .int .i64 (-2)] 3)).alloc (.cells #[.slice (some ⟨W.heap.size, 0, none⟩) 2 2, .slice (some ⟨W.heap.size + 1, 0, none⟩) 2 2, .slice (some ⟨W.heap.size + 1 + 1, 0, none⟩) 2 2] 35)) ∧ RowsAt w1 (.slice (some ⟨W.heap.size + 1 + 1 + 1, 0, none⟩) 3 3) exF ∧ Below W.heap.size W w1 ∧ w1.heap.size = W.heap.size + 1 + 1 + 1 + 1 := by
  refine ⟨_, rfl, ?_, (((((Below.refl _ _).alloc (Nat.le_refl _) _).alloc (by simp) _).alloc (by simp <;> omega) _).alloc (by simp <;> omega) _), by simp⟩
  have h1 := irow_new W #[.int .i64 1, .int .i64 2] 3 [1, 2] rfl (by decide)
  have h2 := irow_new (W.alloc (.cells #[.int .i64 1, .int .i64 2] 3)) #[.int .i64 (-1), .int .i64 3] 3 [-1, 3] rfl (by decide)
  have h3 := irow_new ((W.alloc (.cells #[.int .i64 1, .int .i64 2] 3)).alloc (.cells #[.int .i64 (-1), .int .i64 3] 3)) #[.int .i64 (-3), .int .i64 (-2)] 3 [-3, -2] rfl (by decide)
  have h1' := (h1.alloc (.cells #[.int .i64 (-1), .int .i64 3] 3)).alloc (.cells #[.int .i64 (-3), .int .i64 (-2)] 3)
  have h2' := h2.alloc (.cells #[.int .i64 (-3), .int .i64 (-2)] 3)
  have h4 := rows_new (((W.alloc (.cells #[.int .i64 1, .int .i64 2] 3)).alloc (.cells #[.int .i64 (-1), .int .i64 3] 3)).alloc (.cells #[.int .i64 (-3), .int .i64 (-2)] 3)) #[.slice (some ⟨W.heap.size, 0, none⟩) 2 2, .slice (some ⟨W.heap.size + 1, 0, none⟩) 2 2, .slice (some ⟨W.heap.size + 1 + 1, 0, none⟩) 2 2] 35 exF rfl (by decide) (fun k u x hu hx => by
    match k with
    | 0 => cases hu; cases hx; exact h1'
    | 1 => cases hu; cases hx; simpa using h2'
    | 2 => cases hu; cases hx; simpa using h3
    | k + 3 => cases hx)
  have e : (((W.alloc (.cells #[.int .i64 1, .int .i64 2] 3)).alloc (.cells #[.int .i64 (-1), .int .i64 3] 3)).alloc (.cells #[.int .i64 (-3), .int .i64 (-2)] 3)).heap.size = W.heap.size + 1 + 1 + 1 := by simp
  rw [e] at h4
  exact h4
theorem RowsAt.alloc {w : World} {v : Value} {cs : List (List Int)} (h : RowsAt w v cs) (o : Obj) : RowsAt (w.alloc o) v cs := h.below ((Below.refl _ _).alloc (Nat.le_refl _) _)
theorem below_alloc (w : World) (o : Obj) : Below w.heap.size w (w.alloc o) := (Below.refl _ _).alloc (Nat.le_refl _) _
theorem below_next {w0 w w1 : World} {o : Obj} (h : Below w0.heap.size w0 w) (h1 : Below (w.alloc o).heap.size (w.alloc o) w1) : Below w0.heap.size w0 w1 := below_step (h.alloc h.size o) h1 (Nat.le_trans h.size (by simp))
theorem rows_next {w w1 : World} {o : Obj} {v : Value} {cs : List (List Int)} (h : RowsAt w v cs) (h1 : Below (w.alloc o).heap.size (w.alloc o) w1) : RowsAt w1 v cs := (h.alloc o).below h1
theorem irow_next {w w1 : World} {o : Obj} {v : Value} {l : List Int} (h : IRow w AllB v l) (h1 : Below (w.alloc o).heap.size (w.alloc o) w1) : IRow w1 AllB v l := RdS.below (h.alloc o) h1
theorem blk_next {w w1 : World} {o : Obj} {g : Nat} {x : Obj} (h : w.heap[g]? = some x) (h1 : Below (w.alloc o).heap.size (w.alloc o) w1) : w1.heap[g]? = some x := by
  have := block_lt h
  exact (h1.block g (by simp; omega)).trans ((Below.heap_alloc _ _ _ this).trans h)
theorem irow_drewN {w : World} {v : Value} {l : List Int} (h : IRow w AllB v l) (q : Nat) : IRow (w.drewN q) AllB v l := RdS.below h (below_drewN (Below.refl _ _) q)
theorem rows_drewN {w : World} {v : Value} {cs : List (List Int)} (h : RowsAt w v cs) (q : Nat) : RowsAt (w.drewN q) v cs := h.below (below_drewN (Below.refl _ _) q)
set_option maxRecDepth 100000 in
set_option maxHeartbeats 8000000 in
theorem works_any (w : World) : Calls Try.prog 11 #[] w fun e w' => e = .returned (.bool true) ∧ Below w.heap.size w w' := by
  go_enter Try.func11, Try.ntmps11
  go_upto_region 2 with (fail)
  obtain ⟨v1, hv1, hr1, hb1, hz1⟩ := built_f w
  rw [← hv1]
  obtain ⟨v2, hv2, hg2, hb2, hz2, hbb2⟩ := row_at w v1 (.cells #[.int .i64 3, .slice (some ⟨w.heap.size + 1 + 1 + 1, 0, none⟩) 3 3] 24) hb1
  rw [← hv2]
  have hr2 := hr1.below hb2
  rw [hz1] at hg2
  have HR := Lib.hid hr2
  have HG := Lib.hid hg2
  have HB := Lib.hid hbb2
  clear hr2 hv1 hv2 hr1 hb1 hz1 hg2 hb2 hz2 hbb2
  obtain ⟨hc0, hc1, _, _⟩ := cell_two HG.out
  go_wp2_with fail
  refine (unit_is 3 _ _ exF [1] [1, 3, -2] false _ (HR.out.alloc _) (irow_new v2 #[.int .i64 1] 3 [1] rfl (by decide)) (by decide) (by decide) (by decide) ex1.1 ex2.1).mono ?_
  rintro e x0 ⟨A0, c0, rfl, hbx, hi0⟩
  have HR0 := Lib.hid (rows_next HR.out hbx)
  have HG0 := Lib.hid (blk_next HG.out hbx)
  have HB0 := Lib.hid (below_next HB.out hbx)
  clear HR HG HB hc0 hc1 hbx
  have HR := Lib.hid HR0.out
  have HG := Lib.hid HG0.out
  have HB := Lib.hid HB0.out
  clear HR0 HG0 HB0
  have HI0 := Lib.hid hi0
  clear hi0
  obtain ⟨hc0, hc1, _, _⟩ := cell_two HG.out
  go_wp2_with fail
  refine (unit_is 3 _ _ exF [-1] [-1, 2, -3] false _ (HR.out.alloc _) (irow_new x0 #[.int .i64 (-1)] 3 [-1] rfl (by decide)) (by decide) (by decide) (by decide) ex1.2.1 ex2.2.1).mono ?_
  rintro e x1 ⟨A1, c1, rfl, hbx, hi1⟩
  have HR1 := Lib.hid (rows_next HR.out hbx)
  have HG1 := Lib.hid (blk_next HG.out hbx)
  have HB1 := Lib.hid (below_next HB.out hbx)
  have HI0_1 := Lib.hid (irow_next HI0.out hbx)
  clear HR HG HB hc0 hc1 hbx HI0
  have HR := Lib.hid HR1.out
  have HG := Lib.hid HG1.out
  have HB := Lib.hid HB1.out
  have HI0 := Lib.hid HI0_1.out
  clear HR1 HG1 HB1 HI0_1
  have HI1 := Lib.hid hi1
  clear hi1
  obtain ⟨hc0, hc1, _, _⟩ := cell_two HG.out
  go_wp2_with fail
  refine (unit_is 3 _ _ exF [1, 2] [1, 2, 3] true _ (HR.out.alloc _) (irow_new x1 #[.int .i64 1, .int .i64 2] 3 [1, 2] rfl (by decide)) (by decide) (by decide) (by decide) ex1.2.2 ex2.2.2).mono ?_
  rintro e x2 ⟨A2, c2, rfl, hbx, hi2⟩
  have HR2 := Lib.hid (rows_next HR.out hbx)
  have HG2 := Lib.hid (blk_next HG.out hbx)
  have HB2 := Lib.hid (below_next HB.out hbx)
  have HI0_2 := Lib.hid (irow_next HI0.out hbx)
  have HI1_2 := Lib.hid (irow_next HI1.out hbx)
  clear HR HG HB hc0 hc1 hbx HI0 HI1
  have HR := Lib.hid HR2.out
  have HG := Lib.hid HG2.out
  have HB := Lib.hid HB2.out
  have HI0 := Lib.hid HI0_2.out
  have HI1 := Lib.hid HI1_2.out
  clear HR2 HG2 HB2 HI0_2 HI1_2
  have HI2 := Lib.hid hi2
  clear hi2
  obtain ⟨hc0, hc1, _, _⟩ := cell_two HG.out
  go_wp2_with fail
  refine (norm_is _ [3, 1, 3] [1, 3] _ (irow_new x2 #[.int .i64 3, .int .i64 1, .int .i64 3] 3 [3, 1, 3] rfl (by decide)) (by decide) ex3.1 ex3.2.1 ex4).mono ?_
  rintro e x3 ⟨A3, c3, rfl, hbx, hi3⟩
  have HR3 := Lib.hid (rows_next HR.out hbx)
  have HG3 := Lib.hid (blk_next HG.out hbx)
  have HB3 := Lib.hid (below_next HB.out hbx)
  have HI0_3 := Lib.hid (irow_next HI0.out hbx)
  have HI1_3 := Lib.hid (irow_next HI1.out hbx)
  have HI2_3 := Lib.hid (irow_next HI2.out hbx)
  clear HR HG HB hc0 hc1 hbx HI0 HI1 HI2
  have HR := Lib.hid HR3.out
  have HG := Lib.hid HG3.out
  have HB := Lib.hid HB3.out
  have HI0 := Lib.hid HI0_3.out
  have HI1 := Lib.hid HI1_3.out
  have HI2 := Lib.hid HI2_3.out
  clear HR3 HG3 HB3 HI0_3 HI1_3 HI2_3
  have HI3 := Lib.hid hi3
  clear hi3
  obtain ⟨hc0, hc1, _, _⟩ := cell_two HG.out
  go_wp2_with fail
  refine (norm_two _ [1, -1] _ (irow_new x3 #[.int .i64 1, .int .i64 (-1)] 3 [1, -1] rfl (by decide)) (by decide) ex3.2.2.1 ex3.2.2.2).mono ?_
  rintro e x4 ⟨rfl, hbx⟩
  have HR4 := Lib.hid (rows_next HR.out hbx)
  have HG4 := Lib.hid (blk_next HG.out hbx)
  have HB4 := Lib.hid (below_next HB.out hbx)
  have HI0_4 := Lib.hid (irow_next HI0.out hbx)
  have HI1_4 := Lib.hid (irow_next HI1.out hbx)
  have HI2_4 := Lib.hid (irow_next HI2.out hbx)
  have HI3_4 := Lib.hid (irow_next HI3.out hbx)
  clear HR HG HB hc0 hc1 hbx HI0 HI1 HI2 HI3
  have HR := Lib.hid HR4.out
  have HG := Lib.hid HG4.out
  have HB := Lib.hid HB4.out
  have HI0 := Lib.hid HI0_4.out
  have HI1 := Lib.hid HI1_4.out
  have HI2 := Lib.hid HI2_4.out
  have HI3 := Lib.hid HI3_4.out
  clear HR4 HG4 HB4 HI0_4 HI1_4 HI2_4 HI3_4
  obtain ⟨hc0, hc1, _, _⟩ := cell_two HG.out
  go_wp2_with fail
  refine (same_is _ _ [1, 3, -2] _ (HI0.out.alloc _) (irow_new x4 #[.int .i64 1, .int .i64 3, .int .i64 (-2)] 3 [1, 3, -2] rfl (by decide))).mono ?_
  rintro e y0 ⟨rfl, nq0, hw⟩
  have hbx : Below (x4.alloc (.cells #[.int .i64 1, .int .i64 3, .int .i64 (-2)] 3)).heap.size (x4.alloc (.cells #[.int .i64 1, .int .i64 3, .int .i64 (-2)] 3)) y0 := by rw [hw]; exact below_drewN (Below.refl _ _) _
  clear hw
  have HRy0 := Lib.hid (rows_next HR.out hbx)
  have HGy0 := Lib.hid (blk_next HG.out hbx)
  have HBy0 := Lib.hid (below_next HB.out hbx)
  have HI1_y0 := Lib.hid (irow_next HI1.out hbx)
  have HI2_y0 := Lib.hid (irow_next HI2.out hbx)
  have HI3_y0 := Lib.hid (irow_next HI3.out hbx)
  clear HR HG HB hc0 hc1 hbx HI0 HI1 HI2 HI3
  have HR := Lib.hid HRy0.out
  have HG := Lib.hid HGy0.out
  have HB := Lib.hid HBy0.out
  have HI1 := Lib.hid HI1_y0.out
  have HI2 := Lib.hid HI2_y0.out
  have HI3 := Lib.hid HI3_y0.out
  clear HRy0 HGy0 HBy0 HI1_y0 HI2_y0 HI3_y0
  obtain ⟨hc0, hc1, _, _⟩ := cell_two HG.out
  go_wp2_with fail
  refine (same_is _ _ [-1, 2, -3] _ (HI1.out.alloc _) (irow_new y0 #[.int .i64 (-1), .int .i64 2, .int .i64 (-3)] 3 [-1, 2, -3] rfl (by decide))).mono ?_
  rintro e y1 ⟨rfl, nq1, hw⟩
  have hbx : Below (y0.alloc (.cells #[.int .i64 (-1), .int .i64 2, .int .i64 (-3)] 3)).heap.size (y0.alloc (.cells #[.int .i64 (-1), .int .i64 2, .int .i64 (-3)] 3)) y1 := by rw [hw]; exact below_drewN (Below.refl _ _) _
  clear hw
  have HRy1 := Lib.hid (rows_next HR.out hbx)
  have HGy1 := Lib.hid (blk_next HG.out hbx)
  have HBy1 := Lib.hid (below_next HB.out hbx)
  have HI2_y1 := Lib.hid (irow_next HI2.out hbx)
  have HI3_y1 := Lib.hid (irow_next HI3.out hbx)
  clear HR HG HB hc0 hc1 hbx HI1 HI2 HI3
  have HR := Lib.hid HRy1.out
  have HG := Lib.hid HGy1.out
  have HB := Lib.hid HBy1.out
  have HI2 := Lib.hid HI2_y1.out
  have HI3 := Lib.hid HI3_y1.out
  clear HRy1 HGy1 HBy1 HI2_y1 HI3_y1
  obtain ⟨hc0, hc1, _, _⟩ := cell_two HG.out
  go_wp2_with fail
  refine (same_is _ _ [1, 2, 3] _ (HI2.out.alloc _) (irow_new y1 #[.int .i64 1, .int .i64 2, .int .i64 3] 3 [1, 2, 3] rfl (by decide))).mono ?_
  rintro e y2 ⟨rfl, nq2, hw⟩
  have hbx : Below (y1.alloc (.cells #[.int .i64 1, .int .i64 2, .int .i64 3] 3)).heap.size (y1.alloc (.cells #[.int .i64 1, .int .i64 2, .int .i64 3] 3)) y2 := by rw [hw]; exact below_drewN (Below.refl _ _) _
  clear hw
  have HRy2 := Lib.hid (rows_next HR.out hbx)
  have HGy2 := Lib.hid (blk_next HG.out hbx)
  have HBy2 := Lib.hid (below_next HB.out hbx)
  have HI3_y2 := Lib.hid (irow_next HI3.out hbx)
  clear HR HG HB hc0 hc1 hbx HI2 HI3
  have HR := Lib.hid HRy2.out
  have HG := Lib.hid HGy2.out
  have HB := Lib.hid HBy2.out
  have HI3 := Lib.hid HI3_y2.out
  clear HRy2 HGy2 HBy2 HI3_y2
  obtain ⟨hc0, hc1, _, _⟩ := cell_two HG.out
  go_wp2_with fail
  refine (same_is _ _ [1, 3] _ (HI3.out.alloc _) (irow_new y2 #[.int .i64 1, .int .i64 3] 3 [1, 3] rfl (by decide))).mono ?_
  rintro e y3 ⟨rfl, nq3, hw⟩
  have hbx : Below (y2.alloc (.cells #[.int .i64 1, .int .i64 3] 3)).heap.size (y2.alloc (.cells #[.int .i64 1, .int .i64 3] 3)) y3 := by rw [hw]; exact below_drewN (Below.refl _ _) _
  clear hw
  have HRy3 := Lib.hid (rows_next HR.out hbx)
  have HGy3 := Lib.hid (blk_next HG.out hbx)
  have HBy3 := Lib.hid (below_next HB.out hbx)
  clear HR HG HB hc0 hc1 hbx HI3
  have HR := Lib.hid HRy3.out
  have HG := Lib.hid HGy3.out
  have HB := Lib.hid HBy3.out
  clear HRy3 HGy3 HBy3
  obtain ⟨hc0, hc1, _, _⟩ := cell_two HG.out
  go_wp2_with fail
  refine (holds_any 3 _ _ exF [true, false, true] _ (HR.out.alloc _) (boolr_new y3 #[.bool true, .bool false, .bool true] 4 [true, false, true] rfl (by decide)) (by decide)).mono ?_
  rintro e z0 ⟨rfl, hbx⟩
  rw [ex5.1]
  have HRz := Lib.hid (rows_next HR.out hbx)
  have HGz := Lib.hid (blk_next HG.out hbx)
  have HBz := Lib.hid (below_next HB.out hbx)
  clear HR HG HB hc0 hc1 hbx
  obtain ⟨hc0, hc1, _, _⟩ := cell_two HGz.out
  go_wp2_with fail
  refine (count_any 3 _ exF _ HRz.out (by decide)).mono ?_
  rintro e z1 ⟨rfl, hbx⟩
  rw [show (countN exF : Int) = 6 from rfl]
  have HBf := Lib.hid (below_step HBz.out hbx HBz.out.size)
  clear hbx
  go_wp2
  go_ret
  exact ⟨rfl, HBf.out⟩
end Go.Proofs.Ytapaoccpbcjgeaa
