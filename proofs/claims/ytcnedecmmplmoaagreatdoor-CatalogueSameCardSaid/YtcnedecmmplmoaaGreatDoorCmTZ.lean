/- catalogue: what comes in: rows of variants, rows of needs, a need. -/
import Derived.Test.YtcnedecmmplmoaaGreatDoorCm34
import Derived.Test.YtcnedecmmplmoaaGreatDoorCm19
import Derived.Lib.SmallJoins
import Derived.Deep.Slices
import Derived.DataReads
set_option linter.unusedVariables false
set_option linter.unusedSimpArgs false
namespace Go.Proofs.YtcnedecmmplmoaaGreatDoor
open Go.ChangeShapes Go.WideShapes Go.ChangeAt Go.RowKit Go.BigFrame

theorem flat_len (g : Nat → List Value) (m : Nat) (hg : ∀ i, (g i).length = m) (n : Nat) : ((List.range n).flatMap g).length = n * m := by
  induction n with
  | zero => simp
  | succ n ih => rw [List.range_succ, List.flatMap_append, List.length_append, ih]; simp [hg, Nat.succ_mul]
theorem flat_take (g : Nat → List Value) (m : Nat) (hg : ∀ i, (g i).length = m) (n k : Nat) (hk : k < n) : (((List.range n).flatMap g).drop (k * m)).take m = g k := by
  apply List.ext_getElem?
  intro j
  rw [List.getElem?_take, List.getElem?_drop]
  split
  · rename_i hj; exact flat_get g m hg _ k j k (by simp [hk]) hj
  · rename_i hj; rw [List.getElem?_eq_none (by rw [hg]; omega)]
/-- A row of structs that came in. -/
theorem trod_rows {α : Type} [Inhabited α] {m : Nat} {R : World → (Nat → Prop) → List Value → α → Prop} {H : Type} {enc : TypeId × Value → H} {w : World} {base : Nat} {sp : Nat → Bool} {held : Bool} {fuel : Nat} {T e : TypeId} {v : Value} {x : DataW H × List MemPlace}
    (hT : Tryz.prog.underlying T = some (.slice e)) (hm0 : 0 < m) (hce : Tryz.prog.cellsOf e = m)
    (one : ∀ n' cs y, cs.length = m → DataW.trod enc Tryz.prog w base sp held n' e cs = some y → ∃ x : α, R w AllB cs x)
    (hf : DataW.trod enc Tryz.prog w base sp held fuel T [v] = some x) : ∃ l : List α, OutM m R w AllB v l := by
  rcases Go.Deep.open_slice hT hf with ⟨hcs, _⟩ | ⟨a, n, cap, q, k, D, Pl, hcs, _, hl, hm, hmm, _, hel⟩
  · have hv : v = .slice none 0 0 := by simpa using hcs
    subst hv
    exact ⟨[], OutM.nil _ _⟩
  · have hv : v = .slice (some a) n cap := by simpa using hcs
    subst hv
    have hnm : n ≤ q := by rw [hmm]; split <;> omega
    have hone : ∀ i, i < n → ∃ p : List Value × α, p.1.length = m ∧ (∀ j, j < m → w.cell? (a.add (i * m + j)) = p.1[j]?) ∧ R w AllB p.1 p.2 := by
      intro i hi
      obtain ⟨cs', hc, ht⟩ := hel i (by omega)
      rw [hce] at hc
      obtain ⟨_, hcl, hat⟩ := World.cells?_some hc
      obtain ⟨x, hx⟩ := one _ _ _ hcl ht
      exact ⟨(cs', x), hcl, fun j hj => by rw [← add_add]; exact hat j hj, hx⟩
    obtain ⟨f, hfz⟩ := Go.Deep.choose_lt hone
    obtain ⟨g, hg⟩ : ∃ g : Nat → List Value, g = fun i => if i < n then (f i).1 else List.replicate m (.int .u8 0) := ⟨_, rfl⟩
    have hgi : ∀ i, i < n → g i = (f i).1 := fun i hi => by rw [hg]; simp [hi]
    have hgl : ∀ i, (g i).length = m := fun i => by
      by_cases hi : i < n
      · rw [hgi i hi]; exact (hfz i hi).1
      · rw [hg]; simp [hi]
    have hlen : ((List.range n).map fun i => (f i).2).length = n := by simp
    refine ⟨(List.range n).map fun i => (f i).2, (List.range n).flatMap g, ⟨some a, cap, by rw [hlen], by rw [hlen]; exact hl, hm, (fun h => by cases h), fun hn => ⟨a, rfl, ?_, trivial, fun j u hu => ?_⟩⟩, by rw [flat_len g m hgl, hlen], fun k y hk => ?_⟩
    · rw [hlen] at hn
      obtain ⟨h1, h2, _⟩ := hfz 0 hn
      obtain ⟨u, hu⟩ : ∃ u, (f 0).1[0]? = some u := ⟨_, List.getElem?_eq_getElem (by omega)⟩
      have := block_lt_of_cell ((h2 0 hm0).trans hu)
      rwa [add_block] at this
    · have hj : j < n * m := by have := (List.getElem?_eq_some_iff.1 hu).1; rwa [flat_len g m hgl] at this
      have hi : j / m < n := (Nat.div_lt_iff_lt_mul hm0).2 hj
      have hr : j % m < m := Nat.mod_lt _ hm0
      have e : j = j / m * m + j % m := by rw [Nat.mul_comm]; exact (Nat.div_add_mod j m).symm
      have h3 := flat_get g m hgl (List.range n) (j / m) (j % m) (j / m) (by simp [hi]) hr
      rw [← e, hu, hgi _ hi] at h3
      rw [h3]
      have := (hfz _ hi).2.1 (j % m) hr
      rwa [← e] at this
    · have hk2 : k < n := by have := (List.getElem?_eq_some_iff.1 hk).1; simpa using this
      rw [flat_take g m hgl n k hk2, hgi k hk2]
      have e : y = (f k).2 := by simp [hk2] at hk; exact hk.symm
      rw [e]
      exact (hfz k hk2).2.2
theorem cellsNeed : Tryz.prog.cellsOf 40 = 2 := by kernel_rfl
theorem cellsVar : Tryz.prog.cellsOf 53 = 5 := by kernel_rfl
theorem cellsRange : Tryz.prog.cellsOf 38 = 1 := by kernel_rfl
theorem cellsNeeds : Tryz.prog.cellsOf 42 = 1 := by kernel_rfl
theorem structNeed : ∃ f0 f1, Tryz.prog.underlying 40 = some (.struct #[f0, f1]) ∧ (f0.type = 9 ∧ f0.offset = 0) ∧ (f1.type = 38 ∧ f1.offset = 1) ∧ Go.Deep.oneCellFields Tryz.prog #[f0, f1] = true :=
  ⟨_, _, Tryz.underlying40, ⟨rfl, rfl⟩, ⟨rfl, rfl⟩, by kernel_rfl⟩
theorem structVar : ∃ f0 f1 f2 f3 f4, Tryz.prog.underlying 53 = some (.struct #[f0, f1, f2, f3, f4]) ∧ (f0.type = 9 ∧ f0.offset = 0) ∧ (f1.type = 9 ∧ f1.offset = 1) ∧ (f2.type = 42 ∧ f2.offset = 2) ∧ (f3.type = 42 ∧ f3.offset = 3) ∧ (f4.type = 9 ∧ f4.offset = 4) :=
  ⟨_, _, _, _, _, Tryz.underlying53, ⟨rfl, rfl⟩, ⟨rfl, rfl⟩, ⟨rfl, rfl⟩, ⟨rfl, rfl⟩, ⟨rfl, rfl⟩⟩
set_option maxRecDepth 100000 in
theorem trod_need1 {H : Type} {enc : TypeId × Value → H} {w : World} {base : Nat} {sp : Nat → Bool} {held : Bool} (n' : Nat) (cs : List Value) (y : DataW H × List MemPlace) (hcl : cs.length = 2)
    (ht : DataW.trod enc Tryz.prog w base sp held n' 40 cs = some y) : ∃ x : Nde, NdC w AllB cs x := by
  obtain ⟨f0, f1, hS, ⟨t0, o0⟩, ⟨t1, o1⟩, _⟩ := structNeed
  obtain ⟨ys, k', _, _, _, hyl, hfs⟩ := DataW.trod_struct hS ht
  match cs, hcl with
  | [c0, c1], _ =>
    have g0 := hfs 0 f0 rfl
    have g1 := hfs 1 f1 rfl
    rw [t0, o0, cellsStr] at g0
    rw [t1, o1, cellsRange] at g1
    have hys : ys.length = 2 := hyl
    match ys, hys with
    | [y0, y1], _ =>
      obtain ⟨s0, e0, _⟩ := DataW.trod_string Tryz.underlying9 g0
      obtain ⟨r, hr⟩ := trod_range (v := c1) Tryz.underlying38 g1
      have e0' : c0 = .string s0 := by simpa using e0
      subst e0'
      exact ⟨(s0, r), c1, rfl, hr⟩
theorem trod_needs {H : Type} {enc : TypeId × Value → H} {w : World} {base : Nat} {sp : Nat → Bool} {held : Bool} {fuel : Nat} {v : Value} {x : DataW H × List MemPlace}
    (hf : DataW.trod enc Tryz.prog w base sp held fuel 42 [v] = some x) : ∃ l : List Nde, NdsAt w v l :=
  trod_rows Tryz.underlying42 (by decide) cellsNeed trod_need1 hf
set_option maxRecDepth 100000 in
theorem trod_var1 {H : Type} {enc : TypeId × Value → H} {w : World} {base : Nat} {sp : Nat → Bool} {held : Bool} (n' : Nat) (cs : List Value) (y : DataW H × List MemPlace) (hcl : cs.length = 5)
    (ht : DataW.trod enc Tryz.prog w base sp held n' 53 cs = some y) : ∃ x : Va, VaC w AllB cs x := by
  obtain ⟨f0, f1, f2, f3, f4, hS, ⟨t0, o0⟩, ⟨t1, o1⟩, ⟨t2, o2⟩, ⟨t3, o3⟩, ⟨t4, o4⟩⟩ := structVar
  obtain ⟨ys, k', _, _, _, hyl, hfs⟩ := DataW.trod_struct hS ht
  match cs, hcl with
  | [c0, c1, c2, c3, c4], _ =>
    have g0 := hfs 0 f0 rfl
    have g1 := hfs 1 f1 rfl
    have g2 := hfs 2 f2 rfl
    have g3 := hfs 3 f3 rfl
    have g4 := hfs 4 f4 rfl
    rw [t0, o0, cellsStr] at g0
    rw [t1, o1, cellsStr] at g1
    rw [t2, o2, cellsNeeds] at g2
    rw [t3, o3, cellsNeeds] at g3
    rw [t4, o4, cellsStr] at g4
    have hys : ys.length = 5 := hyl
    match ys, hys with
    | [y0, y1, y2, y3, y4], _ =>
      obtain ⟨s0, e0, _⟩ := DataW.trod_string Tryz.underlying9 g0
      obtain ⟨s1, e1, _⟩ := DataW.trod_string Tryz.underlying9 g1
      obtain ⟨l2, h2⟩ := trod_needs (v := c2) g2
      obtain ⟨l3, h3⟩ := trod_needs (v := c3) g3
      obtain ⟨s4, e4, _⟩ := DataW.trod_string Tryz.underlying9 g4
      have e0' : c0 = .string s0 := by simpa using e0
      have e1' : c1 = .string s1 := by simpa using e1
      have e4' : c4 = .string s4 := by simpa using e4
      subst e0' e1' e4'
      exact ⟨⟨s0, s1, l2, l3, s4⟩, c2, c3, rfl, h2, h3⟩
set_option maxRecDepth 100000 in
theorem open_vas {H : Type} {enc : TypeId × Value → H} {w : World} {base : Nat} {sp : Nat → Bool} {held : Bool} {r : Reach} {b0 : Nat} {v : Value} {y : DataW H} {ps : List MemPlace} (_lt : ∀ x ∈ ps, x.block < w.heap.size)
    (hval : Value.okWide Tryz.prog w r b0 22 v) (hd : DataW.Trod enc Tryz.prog w base sp held 22 v y ps) :
    ∃ (a : Value) (l : List Va), VasAt w a l ∧ a = v := by
  obtain ⟨A, n, cap, rfl⟩ := okWide_slice Tryz.underlying22 hval
  obtain ⟨fuel, hf⟩ := hd
  obtain ⟨l, hl⟩ := trod_rows (v := .slice A n cap) Tryz.underlying22 (by decide) cellsVar trod_var1 hf
  exact ⟨_, l, hl, rfl⟩
set_option maxRecDepth 100000 in
theorem open_need {H : Type} {enc : TypeId × Value → H} {w : World} {base : Nat} {sp : Nat → Bool} {held : Bool} {r : Reach} {b0 : Nat} {v : Value} {y : DataW H} {ps : List MemPlace} (_lt : ∀ x ∈ ps, x.block < w.heap.size)
    (hval : Value.okWide Tryz.prog w r b0 40 v) (hd : DataW.Trod enc Tryz.prog w base sp held 40 v y ps) :
    ∃ (u : Value) (n : Nde), RngAt w u n.2 ∧ n.1.size ≤ maxLen ∧ v = .agg #[.string n.1, u] := by
  obtain ⟨f0, f1, hS, ⟨t0, _⟩, ⟨t1, _⟩, ho⟩ := structNeed
  obtain ⟨v0, v1, y0, y1, n, rfl, _, _, h0, h1⟩ := Joins.open_agg2 hS ho cellsNeed hval hd
  rw [t0] at h0
  rw [t1] at h1
  obtain ⟨nm, e0, _, z0⟩ := DataW.trod_string Tryz.underlying9 h0
  obtain ⟨rr, hr⟩ := trod_range (v := v1) Tryz.underlying38 h1
  have e0' : v0 = .string nm := by simpa using e0
  exact ⟨v1, (nm, rr), hr, z0, by rw [e0']⟩
end Go.Proofs.YtcnedecmmplmoaaGreatDoor
