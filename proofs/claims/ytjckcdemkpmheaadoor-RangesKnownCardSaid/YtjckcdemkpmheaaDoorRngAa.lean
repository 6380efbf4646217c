/- Ranges that came in; the chapter's examples. -/
import Derived.Test.YtjckcdemkpmheaaDoorRngZ
import Derived.Deep.SlicePairs
import Derived.Deep.Strs
import Derived.DataReads
namespace Go.Proofs.YtjckcdemkpmheaaDoor
open Go.ChangeShapes Go.WideShapes Go.ChangeAt Go.RowKit Go.BigFrame

theorem cellsBd : Tryd.prog.cellsOf 45 = 2 := by kernel_rfl
theorem cellsRow : Tryd.prog.cellsOf 31 = 1 := by kernel_rfl
theorem cellsU8' : Tryd.prog.cellsOf 5 = 1 := by kernel_rfl
theorem cellsStr : Tryd.prog.cellsOf 9 = 1 := by kernel_rfl
theorem structBd : ∃ f0 f1, Tryd.prog.underlying 45 = some (.struct #[f0, f1]) ∧ f0.type = 5 ∧ f1.type = 9 ∧ f0.offset = 0 ∧ f1.offset = 1 :=
  ⟨_, _, Tryd.underlying45, rfl, rfl, rfl, rfl⟩
theorem trod_row {H : Type} {enc : TypeId × Value → H} {w : World} {base : Nat} {sp : Nat → Bool} {held : Bool} {fuel : Nat} {v : Value} {x : DataW H × List MemPlace}
    (hf : DataW.trod enc Tryd.prog w base sp held fuel 31 [v] = some x) : ∃ row : List Bd, BRow w AllB v row := by
  obtain ⟨f0, f1, hS, t0, t1, o0, o1⟩ := structBd
  rcases Go.Deep.open_slice_pairs Tryd.underlying31 hS cellsBd o0 o1 (by rw [t0]; exact cellsU8') (by rw [t1]; exact cellsStr) hf with ⟨hcs, _⟩ | ⟨a, n, cap, m, k, V0, V1, D0, D1, P0, P1, hcs, _, hl, hm, hmm, _, hel⟩
  · have hv : v = .slice none 0 0 := by simpa using hcs
    subst hv
    exact ⟨[], RdS.nil w AllB⟩
  · have hv : v = .slice (some a) n cap := by simpa using hcs
    subst hv
    have hnm : n ≤ m := by rw [hmm]; split <;> omega
    have hc : ∀ i, i < n → ∃ b : Bd, w.cell? (a.add (i * 2)) = some (.int .u8 (b.1 : Int)) ∧ w.cell? (a.add (i * 2 + 1)) = some (.string b.2) := by
      intro i hi
      obtain ⟨h0, h1, h2, h3⟩ := hel i (by omega)
      rw [t0] at h2
      rw [t1] at h3
      obtain ⟨z, ez, _, hz⟩ := DataW.trod_int Tryd.underlying5 h2
      obtain ⟨s, es, _⟩ := DataW.trod_string Tryd.underlying9 h3
      have hz0 : 0 ≤ z := by
        have := hz
        have hb : 0 ≤ z ∧ z ≤ 255 := by simpa [Lit.wf, IntKind.min, IntKind.max, IntKind.signed, IntKind.bits] using this
        exact hb.1
      refine ⟨(z.toNat, s), ?_, ?_⟩
      · rw [h0]
        have : V0 i = .int .u8 z := by simpa using ez
        rw [this]
        simp [Int.toNat_of_nonneg hz0]
      · rw [h1]; simpa using es
    obtain ⟨f, hfz⟩ : ∃ f : Nat → Bd, ∀ i, i < n → w.cell? (a.add (i * 2)) = some (.int .u8 ((f i).1 : Int)) ∧ w.cell? (a.add (i * 2 + 1)) = some (.string (f i).2) := ⟨fun i => if h : i < n then Classical.choose (hc i h) else default, fun i hi => by
      have := Classical.choose_spec (hc i hi)
      simp only [hi, dif_pos]
      exact this⟩
    have hlen : ((List.range n).map f).length = n := by simp
    refine ⟨(List.range n).map f, some a, cap, by rw [hlen], by rw [hlen]; exact hl, hm, (fun h => by cases h), fun hn => ⟨a, rfl, ?_, trivial, fun j u hu => ?_⟩⟩
    · rw [hlen] at hn
      have := block_lt_of_cell (hfz 0 hn).1
      rwa [add_block] at this
    · have hj : j < n * 2 := by
        have := (List.getElem?_eq_some_iff.1 hu).1
        rwa [rowCells_len, hlen] at this
      have hi : j / 2 < n := by omega
      obtain ⟨c0, c1⟩ := hfz (j / 2) hi
      have hx : ((List.range n).map f)[j / 2]? = some (f (j / 2)) := by simp [hi]
      rcases Nat.mod_two_eq_zero_or_one j with h2 | h2
      · have e : j = j / 2 * 2 + 0 := by omega
        have := flat_get bdEnc 2 (fun _ => rfl) _ (j / 2) 0 _ hx (by omega)
        unfold rowCells at hu
        rw [e, this] at hu
        rw [e, Nat.add_zero, c0]
        simpa [bdEnc] using hu
      · have e : j = j / 2 * 2 + 1 := by omega
        have := flat_get bdEnc 2 (fun _ => rfl) _ (j / 2) 1 _ hx (by omega)
        unfold rowCells at hu
        rw [e, this] at hu
        rw [e, c1]
        simpa [bdEnc] using hu
theorem trod_range {H : Type} {enc : TypeId × Value → H} {w : World} {base : Nat} {sp : Nat → Bool} {held : Bool} {fuel : Nat} {T : TypeId} {v : Value} {x : DataW H × List MemPlace} (hT : Tryd.prog.underlying T = some (.slice 31))
    (hf : DataW.trod enc Tryd.prog w base sp held fuel T [v] = some x) : ∃ r : List (List Bd), RngAt w v r := by
  rcases Go.Deep.open_slice1 hT cellsRow hf with ⟨hcs, _⟩ | ⟨a, n, cap, m, k, V, D, Pl, hcs, _, hl, hm, hmm, _, hel⟩
  · have hv : v = .slice none 0 0 := by simpa using hcs
    subst hv
    exact ⟨[], [], RdS.nil w AllB, ItemsS.nil _ _ _⟩
  · have hv : v = .slice (some a) n cap := by simpa using hcs
    subst hv
    have hnm : n ≤ m := by rw [hmm]; split <;> omega
    have hc : ∀ i, i < n → ∃ row : List Bd, w.cell? (a.add i) = some (V i) ∧ BRow w AllB (V i) row := by
      intro i hi
      obtain ⟨h2, h3⟩ := hel i (by omega)
      obtain ⟨row, hrow⟩ := trod_row h3
      exact ⟨row, h2, hrow⟩
    obtain ⟨f, hfz⟩ : ∃ f : Nat → List Bd, ∀ i, i < n → w.cell? (a.add i) = some (V i) ∧ BRow w AllB (V i) (f i) := ⟨fun i => if h : i < n then Classical.choose (hc i h) else [], fun i hi => by
      have := Classical.choose_spec (hc i hi)
      simp only [hi, dif_pos]
      exact this⟩
    have hlen : ((List.range n).map f).length = n := by simp
    refine ⟨(List.range n).map f, (List.range n).map V, ⟨some a, cap, by rw [hlen], by rw [hlen]; exact hl, hm, (fun h => by cases h), fun hn => ⟨a, rfl, ?_, trivial, fun j u hu => ?_⟩⟩, by simp, fun j u y hu hy => ?_⟩
    · rw [hlen] at hn
      have := block_lt_of_cell (hfz 0 hn).1
      rwa [add_block] at this
    · have hj : j < n := by have := (List.getElem?_eq_some_iff.1 hu).1; simpa using this
      rw [(hfz j hj).1, ← hu]
      simp [hj]
    · have hj : j < n := by have := (List.getElem?_eq_some_iff.1 hu).1; simpa using this
      simp [hj] at hu hy
      subst hu; subst hy
      exact (hfz j hj).2
set_option maxRecDepth 100000 in
theorem open_range {H : Type} {enc : TypeId × Value → H} {w : World} {base : Nat} {sp : Nat → Bool} {held : Bool} {r : Reach} {b0 : Nat} {v : Value} {y : DataW H} {ps : List MemPlace} (_lt : ∀ x ∈ ps, x.block < w.heap.size)
    (hval : Value.okWide Tryd.prog w r b0 24 v) (hd : DataW.Trod enc Tryd.prog w base sp held 24 v y ps) :
    ∃ (a : Value) (r : List (List Bd)), RngAt w a r ∧ v = a := by
  obtain ⟨A, n, cap, rfl⟩ := okWide_slice Tryd.underlying24 hval
  obtain ⟨fuel, hf⟩ := hd
  obtain ⟨r, hR⟩ := trod_range Tryd.underlying24 hf
  exact ⟨_, r, hR, rfl⟩
end Go.Proofs.YtjckcdemkpmheaaDoor
