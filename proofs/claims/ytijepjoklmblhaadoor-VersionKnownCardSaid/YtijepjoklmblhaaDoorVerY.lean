/- Versions, and rows of texts, that came in. -/
import Derived.Test.YtijepjoklmblhaaDoorVerX
import Derived.Test.YtijepjoklmblhaaDoorBaseC
import Derived.Lib.SmallJoins
namespace Go.Proofs.YtijepjoklmblhaaDoor
open Go.ChangeShapes Go.WideShapes Go.ChangeAt Go.RowKit

theorem trod_ints {H : Type} {enc : TypeId × Value → H} {P : Program} {w : World} {base : Nat} {sp : Nat → Bool} {held : Bool} {fuel : Nat} {T e : TypeId} {v : Value} {x : DataW H × List MemPlace}
    (hT : P.underlying T = some (.slice e)) (he : P.underlying e = some (.int .i64)) (h1 : P.cellsOf e = 1)
    (hf : DataW.trod enc P w base sp held fuel T [v] = some x) : ∃ xs : List Int, Reads w w.heap.size v (ints xs) := by
  rcases Go.Deep.open_slice1 hT h1 hf with ⟨hcs, _⟩ | ⟨a, n, cap, m, k, V, D, Pl, hcs, _, hl, hm, hmm, _, hel⟩
  · have hv : v = .slice none 0 0 := by simpa using hcs
    subst hv
    exact ⟨[], Reads.nil _ _⟩
  · have hv : v = .slice (some a) n cap := by simpa using hcs
    subst hv
    have hnm : n ≤ m := by rw [hmm]; split <;> omega
    have hc : ∀ i, i < n → ∃ z : Int, w.cell? (a.add i) = some (.int .i64 z) := by
      intro i hi
      obtain ⟨h2, h3⟩ := hel i (by omega)
      obtain ⟨b, eb, _, _⟩ := DataW.trod_int he h3
      exact ⟨b, by rw [h2]; simpa using eb⟩
    obtain ⟨f, hfz⟩ : ∃ f : Nat → Int, ∀ i, i < n → w.cell? (a.add i) = some (.int .i64 (f i)) := ⟨fun i => if h : i < n then Classical.choose (hc i h) else 0, fun i hi => by
      have := Classical.choose_spec (hc i hi)
      simp only [hi, dif_pos]
      exact this⟩
    have hlen : (ints ((List.range n).map f)).length = n := by simp [ints]
    refine ⟨(List.range n).map f, some a, cap, by rw [hlen], by rw [hlen]; exact hl, hm, (fun h => by cases h), fun hn => ⟨a, rfl, ?_, fun j u hu => ?_⟩⟩
    · rw [hlen] at hn
      have := block_lt_of_cell (hfz 0 hn)
      rwa [add_block] at this
    · have hj : j < n := by have := (List.getElem?_eq_some_iff.1 hu).1; omega
      rw [hfz j hj, ← hu]
      simp [ints, hj]
theorem trod_strs {H : Type} {enc : TypeId × Value → H} {P : Program} {w : World} {base : Nat} {sp : Nat → Bool} {held : Bool} {fuel : Nat} {T e : TypeId} {v : Value} {x : DataW H × List MemPlace}
    (hT : P.underlying T = some (.slice e)) (he : P.underlying e = some .string) (h1 : P.cellsOf e = 1)
    (hf : DataW.trod enc P w base sp held fuel T [v] = some x) : ∃ ss : List ByteArray, Reads w w.heap.size v (strs ss) := by
  rcases Go.Deep.open_slice1 hT h1 hf with ⟨hcs, _⟩ | ⟨a, n, cap, m, k, V, D, Pl, hcs, _, hl, hm, hmm, _, hel⟩
  · have hv : v = .slice none 0 0 := by simpa using hcs
    subst hv
    exact ⟨[], Reads.nil _ _⟩
  · have hv : v = .slice (some a) n cap := by simpa using hcs
    subst hv
    have hnm : n ≤ m := by rw [hmm]; split <;> omega
    have hc : ∀ i, i < n → ∃ z : ByteArray, w.cell? (a.add i) = some (.string z) := by
      intro i hi
      obtain ⟨h2, h3⟩ := hel i (by omega)
      obtain ⟨b, eb, _⟩ := DataW.trod_string he h3
      exact ⟨b, by rw [h2]; simpa using eb⟩
    obtain ⟨f, hfz⟩ : ∃ f : Nat → ByteArray, ∀ i, i < n → w.cell? (a.add i) = some (.string (f i)) := ⟨fun i => if h : i < n then Classical.choose (hc i h) else ⟨#[]⟩, fun i hi => by
      have := Classical.choose_spec (hc i hi)
      simp only [hi, dif_pos]
      exact this⟩
    have hlen : (strs ((List.range n).map f)).length = n := by simp [strs]
    refine ⟨(List.range n).map f, some a, cap, by rw [hlen], by rw [hlen]; exact hl, hm, (fun h => by cases h), fun hn => ⟨a, rfl, ?_, fun j u hu => ?_⟩⟩
    · rw [hlen] at hn
      have := block_lt_of_cell (hfz 0 hn)
      rwa [add_block] at this
    · have hj : j < n := by have := (List.getElem?_eq_some_iff.1 hu).1; omega
      rw [hfz j hj, ← hu]
      simp [strs, hj]
theorem cellsInt : Tryd.prog.cellsOf 3 = 1 := by kernel_rfl
theorem cellsStr : Tryd.prog.cellsOf 9 = 1 := by kernel_rfl
theorem cellsV : Tryd.prog.cellsOf 24 = 2 := by kernel_rfl
theorem structV : ∃ f0 f1, Tryd.prog.underlying 24 = some (.struct #[f0, f1]) ∧ f0.type = 22 ∧ f1.type = 9 ∧ Go.Deep.oneCellFields Tryd.prog #[f0, f1] = true :=
  ⟨_, _, Tryd.underlying24, rfl, rfl, by kernel_rfl⟩
set_option maxRecDepth 100000 in
theorem open_v {H : Type} {enc : TypeId × Value → H} {w : World} {base : Nat} {sp : Nat → Bool} {held : Bool} {r : Reach} {b0 : Nat} {v : Value} {y : DataW H} {ps : List MemPlace} (_lt : ∀ x ∈ ps, x.block < w.heap.size)
    (hval : Value.okWide Tryd.prog w r b0 24 v) (hd : DataW.Trod enc Tryd.prog w base sp held 24 v y ps) :
    ∃ (a : Value) (xs : List Int) (s : ByteArray), Reads w w.heap.size a (ints xs) ∧ v = .agg #[a, .string s] := by
  obtain ⟨f0, f1, hS, t0, t1, ho⟩ := structV
  obtain ⟨v0, v1, y0, y1, n, rfl, _, _, h0, h1⟩ := Joins.open_agg2 hS ho cellsV hval hd
  rw [t0] at h0
  rw [t1] at h1
  obtain ⟨xs, hR⟩ := trod_ints Tryd.underlying22 Tryd.underlying3 cellsInt h0
  obtain ⟨s, es, _⟩ := DataW.trod_string Tryd.underlying9 h1
  refine ⟨v0, xs, s, hR, ?_⟩
  have : v1 = .string s := by simpa using es
  rw [this]
set_option maxRecDepth 100000 in
theorem open_strs {H : Type} {enc : TypeId × Value → H} {w : World} {base : Nat} {sp : Nat → Bool} {held : Bool} {r : Reach} {b0 : Nat} {v : Value} {y : DataW H} {ps : List MemPlace} (_lt : ∀ x ∈ ps, x.block < w.heap.size)
    (hval : Value.okWide Tryd.prog w r b0 38 v) (hd : DataW.Trod enc Tryd.prog w base sp held 38 v y ps) :
    ∃ (a : Value) (ss : List ByteArray), Reads w w.heap.size a (strs ss) ∧ v = a := by
  obtain ⟨A, n, cap, rfl⟩ := okWide_slice Tryd.underlying38 hval
  obtain ⟨fuel, hf⟩ := hd
  obtain ⟨ss, hR⟩ := trod_strs (v := .slice A n cap) Tryd.underlying38 Tryd.underlying9 cellsStr hf
  exact ⟨_, ss, hR, rfl⟩
end Go.Proofs.YtijepjoklmblhaaDoor
