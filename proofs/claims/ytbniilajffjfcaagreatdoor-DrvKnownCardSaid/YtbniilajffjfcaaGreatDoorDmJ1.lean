/- drv's laws: the helpers. -/
import Derived.Test.YtbniilajffjfcaaGreatDoorDmI1
import Derived.Lib.SmallJoins
import Derived.Deep.SlicePairs
set_option linter.unusedVariables false
set_option linter.unusedSimpArgs false
namespace Go.Proofs.YtbniilajffjfcaaGreatDoor
open Go.RowKit Go.BigFrame Go.Maps

set_option maxRecDepth 100000 in
set_option maxHeartbeats 800000 in
theorem sameTexts_any (a b : Value) (xs ys : List ByteArray) (B : Nat) (w : World) (ha : Reads w B a (strs xs)) (hb : Reads w B b (strs ys)) :
    Calls Tryz.prog 45 #[a, b] w fun e w' => e = .returned (.bool (decide (xs = ys))) ∧ ∃ nq, w' = w.drewN nq := by
  obtain ⟨A, ca, rfl, hla, hma, hza, hra⟩ := ha
  obtain ⟨A', cb, rfl, hlb, hmb, hzb, hrb⟩ := hb
  simp only [strs_len] at *
  have HRA := Lib.hid hra
  have HRB := Lib.hid hrb
  unfold maxLen at *
  clear hra hrb hza hzb
  by_cases hl : xs.length = ys.length
  · have HL := Lib.hid hl
    have hbn : ((xs.length : Int) != (ys.length : Int)) = false := by rw [hl]; simp
    have hl1 : xs.length ≤ ys.length := by omega
    clear hl
    go_enter Tryz.func45, Tryz.ntmps45
    go_wp2
    go_loopw [5] (fun i wr => ∃ (k nq : Nat), k ≤ xs.length ∧ i = .int .i64 k ∧ Hid (wr = w.drewN nq) ∧ Hid (∀ j, j < k → xs.getD j ⟨#[]⟩ = ys.getD j ⟨#[]⟩)) (fun i _ => xs.length - (intOf i).toNat)
    case atStart => exact ⟨0, 0, by omega, rfl, Lib.hid rfl, Lib.hid fun j h => absurd h (Nat.not_lt_zero j)⟩
    case round =>
      obtain ⟨k, nq, hk, rfl, HW, HS⟩ := hrel
      by_cases hlt : k < xs.length
      · obtain ⟨ad, rfl, hbl, hc⟩ := HRA.out (by omega)
        obtain ⟨ad', rfl, hbl', hc'⟩ := HRB.out (by omega)
        have hcx := (cell_drew HW.out _).trans (hc k _ (strs_get xs k (by omega)))
        have hcy := (cell_drew HW.out _).trans (hc' k _ (strs_get ys k (by omega)))
        clear hc hc' hbl hbl'
        have hi1 : (k : Int) < (xs.length : Int) := by omega
        have hi2 : (k : Int) < (ys.length : Int) := by omega
        have hi0 : (0 : Int) ≤ (k : Int) := by omega
        obtain ⟨x, hx⟩ : ∃ x, x = xs.getD k ⟨#[]⟩ := ⟨_, rfl⟩
        obtain ⟨y, hy⟩ : ∃ y, y = ys.getD k ⟨#[]⟩ := ⟨_, rfl⟩
        rw [← hx] at hcx
        rw [← hy] at hcy
        by_cases hxy : x = y
        · have HS' : Hid (∀ j, j < k + 1 → xs.getD j ⟨#[]⟩ = ys.getD j ⟨#[]⟩) := Lib.hid fun j hj => by
            rcases Nat.lt_or_ge j k with h | h
            · exact HS.out j h
            · obtain rfl : j = k := by omega
              rw [← hx, ← hy]; exact hxy
          have hbe : (x.toList == y.toList) = true := by rw [str_ne_iff]; simpa using hxy
          have hbe2 : (x.toList != y.toList) = false := by rw [bne, hbe]; rfl
          clear hx hy hxy
          go_wp2
          go_quiet (fail)
          go_wp2
          go_roundw
          case rel => exact ⟨k + 1, _, by omega, by go_num, Lib.hid (by rw [HW.out]; exact World.drewN_drewN _ _ _), HS'⟩
          case measure => simp [intOf]; omega
        · have HF := Lib.hid (show decide (xs = ys) = false by
            rw [decide_eq_false_iff_not]; exact list_ne xs ys _ k (by rw [← hx, ← hy]; exact hxy))
          have hbe : (x.toList == y.toList) = false := by rw [str_ne_iff]; simpa using hxy
          have hbe2 : (x.toList != y.toList) = true := by rw [bne, hbe]; rfl
          clear hx hy hxy
          go_wp2
          go_quiet (fail)
          go_wp2
          go_ret
          exact ⟨ret_bool HF.out.symm, _, by rw [HW.out]; exact World.drewN_drewN _ _ _⟩
      · have HF := Lib.hid (show decide (xs = ys) = true by
          rw [decide_eq_true_eq]; exact list_eq xs ys _ HL.out fun j hj => HS.out j (by omega))
        go_wp2
        go_ret
        exact ⟨ret_bool HF.out.symm, _, HW.out⟩
  · have hbn : ((xs.length : Int) != (ys.length : Int)) = true := by rw [bne_iff_ne]; omega
    have HF := Lib.hid (show decide (xs = ys) = false by rw [decide_eq_false_iff_not]; exact fun e => hl (by rw [e]))
    go_enter Tryz.func45, Tryz.ntmps45
    go_wp2
    go_ret
    exact ⟨ret_bool HF.out.symm, 0, rfl⟩

theorem sameT (a b : Value) (xs ys : List ByteArray) (w : World) (ha : TRow w AllB a xs) (hb : TRow w AllB b ys) : Calls Tryz.prog 45 #[a, b] w fun e w' => e = .returned (.bool (decide (xs = ys))) ∧ Below w.heap.size w w' := by
  refine (sameTexts_any a b xs ys w.heap.size w (RdS.reads (S := AllB) (by rw [strs_len]; exact ha)) (RdS.reads (S := AllB) (by rw [strs_len]; exact hb))).mono ?_
  rintro e w' ⟨rfl, nq, rfl⟩
  exact ⟨rfl, below_drewN (Below.refl _ _) _⟩
def shortB (l : List ByteArray) (top : Nat) : Bool := decide (l.length ≤ top) && l.all fun s => decide (s.size ≤ 200)
theorem shortB_small {l : List ByteArray} {top : Nat} (h : shortB l top = true) : l.length ≤ top ∧ (∀ s ∈ l, s.size ≤ 200) ∧ Small l := by
  unfold shortB at h
  rw [Bool.and_eq_true, decide_eq_true_eq, List.all_eq_true] at h
  have h2 : ∀ s ∈ l, s.size ≤ 200 := fun s hs => by simpa using h.2 s hs
  exact ⟨h.1, h2, fun s hs => Nat.le_trans (h2 s hs) (by unfold maxLen; decide)⟩
def YesAt (b : Bool) (w : World) (e : Ending) (w' : World) : Prop := e = .returned (.bool b) ∧ ∃ nq, w' = w.drewN nq
set_option maxRecDepth 100000 in
set_option maxHeartbeats 800000 in
theorem short_any (v : Value) (l : List ByteArray) (top : Nat) (w : World) (hv : TRow w AllB v l) (hs : Small l) (ht : top ≤ 1000) :
    Calls Tryz.prog 29 #[v, .int .i64 (top : Int)] w (YesAt (shortB l top) w) := by
  have HP := Lib.hid (fun (b : Bool) (h : shortB l top = b) (w' : World) (hw : ∃ nq, w' = w.drewN nq) => show YesAt (shortB l top) w (.returned (.bool b)) w' from ⟨by rw [h], hw⟩)
  generalize YesAt (shortB l top) w = post at *
  obtain ⟨A, ca, rfl, hla, hma⟩ := RdS.form hv
  unfold maxLen at hma
  have HV := Lib.hid (fun q => show TRow (w.drewN q) AllB (.slice A l.length ca) l from RdS.below hv (below_drewN (Below.refl _ _) q))
  clear hv
  go_enter Tryz.func29, Tryz.ntmps29
  by_cases hl : l.length ≤ top
  · have hi : ¬ (top : Int) < (l.length : Int) := by omega
    have HL := Lib.hid hl
    clear hl
    go_wp2
    go_loopw [5] (fun iv wr => ∃ (k nq : Nat), k ≤ l.length ∧ iv = .int .i64 (k : Int) ∧ Hid (wr = w.drewN nq) ∧ Hid (∀ j, j < k → (l.getD j ⟨#[]⟩).size ≤ 200)) (fun iv _ => l.length - (intOf iv).toNat)
    case atStart => exact ⟨0, 0, by omega, rfl, Lib.hid rfl, Lib.hid fun j h => absurd h (Nat.not_lt_zero j)⟩
    case round =>
      obtain ⟨k, nq, hk, rfl, HW, HJ⟩ := hrel
      by_cases hlt : k < l.length
      · obtain ⟨ad, rfl, hcx⟩ := TRow.get (HV.out nq) k hlt
        rw [← HW.out] at hcx
        have hsz := hs.at hlt
        unfold maxLen at hsz
        have hki : (k : Int) < (l.length : Int) := by omega
        have HM := Lib.hid (getD_mem hlt)
        obtain ⟨s, hs'⟩ : ∃ s, s = l.getD k ⟨#[]⟩ := ⟨_, rfl⟩
        rw [← hs'] at hcx hsz HM
        by_cases h2 : s.size ≤ 200
        · have hi2 : ¬ (200 : Int) < (s.size : Int) := by omega
          have HJ2 : Hid (∀ j, j < k + 1 → (l.getD j ⟨#[]⟩).size ≤ 200) := Lib.hid fun j hj => by
            rcases Nat.lt_or_ge j k with h | h
            · exact HJ.out j h
            · obtain rfl : j = k := by omega
              rw [← hs']; exact h2
          clear hs'
          go_wp2
          go_roundw
          case rel => exact ⟨k + 1, _, by omega, by go_num, HW, HJ2⟩
          case measure => simp [intOf]; omega
        · have hi2 : (200 : Int) < (s.size : Int) := by omega
          have HF := Lib.hid (show shortB l top = false by
            unfold shortB
            have : (l.all fun s => decide (s.size ≤ 200)) = false := by
              rw [Bool.eq_false_iff]
              intro h
              rw [List.all_eq_true] at h
              exact h2 (by simpa using h s HM.out)
            rw [this]; simp)
          clear hs'
          go_wp2
          exact HP.out _ HF.out _ ⟨_, HW.out⟩
      · have hki : ¬ (k : Int) < (l.length : Int) := by omega
        have HF := Lib.hid (show shortB l top = true by
          unfold shortB
          rw [Bool.and_eq_true, decide_eq_true_eq, List.all_eq_true]
          refine ⟨HL.out, fun s hm => ?_⟩
          obtain ⟨j, hj, e⟩ := List.mem_iff_getElem.1 hm
          have := HJ.out j (by omega)
          rw [List.getD_eq_getElem?_getD, List.getElem?_eq_getElem hj] at this
          simpa [← e] using this)
        go_wp2
        exact HP.out _ HF.out _ ⟨_, HW.out⟩
  · have hi : (top : Int) < (l.length : Int) := by omega
    have HF := Lib.hid (show shortB l top = false by unfold shortB; rw [decide_eq_false hl]; rfl)
    go_wp2
    exact HP.out _ HF.out _ ⟨0, rfl⟩
def fewB (nm : ByteArray) (ins : List ByteArray) (rc : ByteArray) : Bool := decide (nm.size ≤ 200) && (decide (rc.size ≤ 1000) && shortB ins 70)
set_option maxRecDepth 100000 in
set_option maxHeartbeats 800000 in
theorem few_any (nm : ByteArray) (v : Value) (ins : List ByteArray) (rc : ByteArray) (w : World) (hv : TRow w AllB v ins) (hs : Small ins) (hn : nm.size ≤ maxLen) (hr : rc.size ≤ maxLen) :
    Calls Tryz.prog 14 #[.agg #[.string nm, v, .string rc]] w (YesNo (fewB nm ins rc) w) := by
  have HP := Lib.hid (fun (b : Bool) (h : fewB nm ins rc = b) (w' : World) (hw : Below w.heap.size w w') => show YesNo (fewB nm ins rc) w (.returned (.bool b)) w' from ⟨by rw [h], hw⟩)
  generalize YesNo (fewB nm ins rc) w = post at *
  obtain ⟨A, ca, rfl, hla, hma⟩ := RdS.form hv
  unfold maxLen at hma hn hr
  have HV := Lib.hid (fun (w1 : World) (h : Below w.heap.size w w1) => short_any _ ins 70 w1 (RdS.below hv h) hs (by omega))
  unfold YesAt at HV
  clear hv hs
  go_enter Tryz.func14, Tryz.ntmps14
  go_upto_region 1 with (fail)
  obtain ⟨w1, hw1, hg1, hb1, hz1⟩ := row_new w (.cells #[.string nm, .slice A ins.length ca, .string rc] 28)
  rw [← hw1]
  have HB1 := Lib.hid hb1
  obtain ⟨hc0, hc1, hc2⟩ := three_cells hg1
  clear hw1 hb1 hz1 hg1
  by_cases h1 : nm.size ≤ 200
  · have hi1 : (nm.size : Int) ≤ 200 := by omega
    by_cases h2 : rc.size ≤ 1000
    · have hi2 : (rc.size : Int) ≤ 1000 := by omega
      have HF := Lib.hid (show fewB nm ins rc = shortB ins 70 by unfold fewB; rw [decide_eq_true h1, decide_eq_true h2]; rfl)
      go_wp2_with fail
      refine (HV.out w1 HB1.out).mono ?_
      rintro e w2 ⟨rfl, nq, hw⟩
      have HB2 := Lib.hid (show Below w.heap.size w w2 by rw [hw]; exact below_drewN HB1.out _)
      clear hw
      go_wp2
      exact HP.out _ HF.out _ HB2.out
    · have hi2 : ¬ (rc.size : Int) ≤ 1000 := by omega
      have HF := Lib.hid (show fewB nm ins rc = false by unfold fewB; rw [decide_eq_false h2]; simp)
      go_wp2
      exact HP.out _ HF.out _ HB1.out
  · have hi1 : ¬ (nm.size : Int) ≤ 200 := by omega
    have HF := Lib.hid (show fewB nm ins rc = false by unfold fewB; rw [decide_eq_false h1]; rfl)
    go_wp2
    exact HP.out _ HF.out _ HB1.out
end Go.Proofs.YtbniilajffjfcaaGreatDoor

/- drv: what comes in. -/
namespace Go.Proofs.YtbniilajffjfcaaGreatDoor
open Go.ChangeShapes Go.WideShapes Go.ChangeAt Go.RowKit Go.BigFrame

theorem cellsStr : Tryz.prog.cellsOf 9 = 1 := by kernel_rfl
theorem cellsStrRow : Tryz.prog.cellsOf 25 = 1 := by kernel_rfl
theorem cellsDrv : Tryz.prog.cellsOf 28 = 3 := by kernel_rfl
theorem trod_trow {H : Type} {enc : TypeId × Value → H} {w : World} {base : Nat} {sp : Nat → Bool} {held : Bool} {fuel : Nat} {v : Value} {x : DataW H × List MemPlace}
    (hf : DataW.trod enc Tryz.prog w base sp held fuel 25 [v] = some x) : ∃ ss : List ByteArray, TRow w AllB v ss ∧ Small ss := by
  rcases Go.Deep.open_slice1 Tryz.underlying25 cellsStr hf with ⟨hcs, _⟩ | ⟨a, n, cap, m, k, V, D, Pl, hcs, _, hl, hm, hmm, _, hel⟩
  · have hv : v = .slice none 0 0 := by simpa using hcs
    subst hv
    exact ⟨[], RdS.nil _ _, fun s hs => by simp at hs⟩
  · have hv : v = .slice (some a) n cap := by simpa using hcs
    subst hv
    have hnm : n ≤ m := by rw [hmm]; split <;> omega
    have hc : ∀ i, i < n → ∃ z : ByteArray, w.cell? (a.add i) = some (.string z) ∧ z.size ≤ maxLen := by
      intro i hi
      obtain ⟨h2, h3⟩ := hel i (by omega)
      obtain ⟨b, eb, _, hz⟩ := DataW.trod_string Tryz.underlying9 h3
      exact ⟨b, by rw [h2]; simpa using eb, hz⟩
    obtain ⟨f, hfz⟩ : ∃ f : Nat → ByteArray, ∀ i, i < n → w.cell? (a.add i) = some (.string (f i)) ∧ (f i).size ≤ maxLen := ⟨fun i => if h : i < n then Classical.choose (hc i h) else ⟨#[]⟩, fun i hi => by
      have := Classical.choose_spec (hc i hi)
      simp only [hi, dif_pos]
      exact this⟩
    have hlen : ((List.range n).map f).length = n := by simp
    refine ⟨(List.range n).map f, ⟨some a, cap, by rw [hlen], by rw [hlen]; exact hl, hm, (fun h => by cases h), fun hn => ⟨a, rfl, ?_, trivial, fun j u hu => ?_⟩⟩, fun s hs => ?_⟩
    · rw [hlen] at hn
      have := World.block_lt_of_cell? w _ (hfz 0 hn).1
      rwa [add_block] at this
    · have hj : j < n := by have := (List.getElem?_eq_some_iff.1 hu).1; simpa [strs] using this
      rw [(hfz j hj).1, ← hu]
      simp [strs, hj]
    · obtain ⟨i, hi, rfl⟩ := List.mem_map.1 hs
      exact (hfz i (List.mem_range.1 hi)).2
theorem trod_needs {H : Type} {enc : TypeId × Value → H} {w : World} {base : Nat} {sp : Nat → Bool} {held : Bool} {fuel : Nat} {T : TypeId} {v : Value} {x : DataW H × List MemPlace} (hT : Tryz.prog.underlying T = some (.slice 25))
    (hf : DataW.trod enc Tryz.prog w base sp held fuel T [v] = some x) : ∃ r : List (List ByteArray), TextsAt w v r ∧ ∀ c ∈ r, Small c := by
  rcases Go.Deep.open_slice1 hT cellsStrRow hf with ⟨hcs, _⟩ | ⟨a, n, cap, m, k, V, D, Pl, hcs, _, hl, hm, hmm, _, hel⟩
  · have hv : v = .slice none 0 0 := by simpa using hcs
    subst hv
    exact ⟨[], ⟨[], RdS.nil w AllB, ItemsS.nil _ _ _⟩, fun c hc => by simp at hc⟩
  · have hv : v = .slice (some a) n cap := by simpa using hcs
    subst hv
    have hnm : n ≤ m := by rw [hmm]; split <;> omega
    have hc : ∀ i, i < n → ∃ row : List ByteArray, w.cell? (a.add i) = some (V i) ∧ TRow w AllB (V i) row ∧ Small row := by
      intro i hi
      obtain ⟨h2, h3⟩ := hel i (by omega)
      obtain ⟨row, hrow⟩ := trod_trow h3
      exact ⟨row, h2, hrow⟩
    obtain ⟨f, hfz⟩ : ∃ f : Nat → List ByteArray, ∀ i, i < n → w.cell? (a.add i) = some (V i) ∧ TRow w AllB (V i) (f i) ∧ Small (f i) := ⟨fun i => if h : i < n then Classical.choose (hc i h) else [], fun i hi => by
      have := Classical.choose_spec (hc i hi)
      simp only [hi, dif_pos]
      exact this⟩
    have hlen : ((List.range n).map f).length = n := by simp
    refine ⟨(List.range n).map f, ⟨(List.range n).map V, ⟨some a, cap, by rw [hlen], by rw [hlen]; exact hl, hm, (fun h => by cases h), fun hn => ⟨a, rfl, ?_, trivial, fun j u hu => ?_⟩⟩, by simp, fun j u y hu hy => ?_⟩, fun c hc => ?_⟩
    · rw [hlen] at hn
      have := World.block_lt_of_cell? w _ (hfz 0 hn).1
      rwa [add_block] at this
    · have hj : j < n := by have := (List.getElem?_eq_some_iff.1 hu).1; simpa using this
      rw [(hfz j hj).1, ← hu]
      simp [hj]
    · have hj : j < n := by have := (List.getElem?_eq_some_iff.1 hu).1; simpa using this
      simp [hj] at hu hy
      subst hu; subst hy
      exact (hfz j hj).2.1
    · obtain ⟨i, hi, rfl⟩ := List.mem_map.1 hc
      exact (hfz i (List.mem_range.1 hi)).2.2
theorem structDrv : ∃ f0 f1 f2, Tryz.prog.underlying 28 = some (.struct #[f0, f1, f2]) ∧ f0.type = 9 ∧ f1.type = 25 ∧ f2.type = 9 ∧ Go.Deep.oneCellFields Tryz.prog #[f0, f1, f2] = true :=
  ⟨_, _, _, Tryz.underlying28, rfl, rfl, rfl, by kernel_rfl⟩
set_option maxRecDepth 100000 in
theorem open_drv {H : Type} {enc : TypeId × Value → H} {w : World} {base : Nat} {sp : Nat → Bool} {held : Bool} {r : Reach} {b0 : Nat} {v : Value} {y : DataW H} {ps : List MemPlace} (_lt : ∀ x ∈ ps, x.block < w.heap.size)
    (hval : Value.okWide Tryz.prog w r b0 28 v) (hd : DataW.Trod enc Tryz.prog w base sp held 28 v y ps) :
    ∃ (nm : ByteArray) (a : Value) (ins : List ByteArray) (rc : ByteArray), TRow w AllB a ins ∧ Small ins ∧ nm.size ≤ maxLen ∧ rc.size ≤ maxLen ∧ v = .agg #[.string nm, a, .string rc] := by
  obtain ⟨f0, f1, f2, hS, t0, t1, t2, ho⟩ := structDrv
  obtain ⟨v0, v1, v2, y0, y1, y2, n, rfl, _, _, h0, h1, h2⟩ := Joins.open_agg3 hS ho cellsDrv hval hd
  rw [t0] at h0
  rw [t1] at h1
  rw [t2] at h2
  obtain ⟨nm, e0, _, z0⟩ := DataW.trod_string Tryz.underlying9 h0
  obtain ⟨rc, e2, _, z2⟩ := DataW.trod_string Tryz.underlying9 h2
  obtain ⟨ins, hR, hs⟩ := trod_trow h1
  have e0' : v0 = .string nm := by simpa using e0
  have e2' : v2 = .string rc := by simpa using e2
  exact ⟨nm, v1, ins, rc, hR, hs, z0, z2, by rw [e0', e2']⟩
set_option maxRecDepth 100000 in
theorem open_names {H : Type} {enc : TypeId × Value → H} {w : World} {base : Nat} {sp : Nat → Bool} {held : Bool} {r : Reach} {b0 : Nat} {v : Value} {y : DataW H} {ps : List MemPlace} (_lt : ∀ x ∈ ps, x.block < w.heap.size)
    (hval : Value.okWide Tryz.prog w r b0 25 v) (hd : DataW.Trod enc Tryz.prog w base sp held 25 v y ps) :
    ∃ (a : Value) (l : List ByteArray), TRow w AllB a l ∧ Small l ∧ a = v := by
  obtain ⟨A, n, cap, rfl⟩ := okWide_slice Tryz.underlying25 hval
  obtain ⟨fuel, hf⟩ := hd
  obtain ⟨c, hR, hs⟩ := trod_trow (v := .slice A n cap) hf
  exact ⟨_, c, hR, hs, rfl⟩
set_option maxRecDepth 100000 in
theorem open_needs {H : Type} {enc : TypeId × Value → H} {w : World} {base : Nat} {sp : Nat → Bool} {held : Bool} {r : Reach} {b0 : Nat} {v : Value} {y : DataW H} {ps : List MemPlace} (_lt : ∀ x ∈ ps, x.block < w.heap.size)
    (hval : Value.okWide Tryz.prog w r b0 36 v) (hd : DataW.Trod enc Tryz.prog w base sp held 36 v y ps) :
    ∃ (a : Value) (l : List (List ByteArray)), TextsAt w a l ∧ (∀ c ∈ l, Small c) ∧ a = v := by
  obtain ⟨A, n, cap, rfl⟩ := okWide_slice Tryz.underlying36 hval
  obtain ⟨fuel, hf⟩ := hd
  obtain ⟨c, hR, hs⟩ := trod_needs (v := .slice A n cap) Tryz.underlying36 hf
  exact ⟨_, c, hR, hs, rfl⟩
end Go.Proofs.YtbniilajffjfcaaGreatDoor

/- drv's laws: graph, same, the walks of DrvSort and DrvClosure. -/
namespace Go.Proofs.YtbniilajffjfcaaGreatDoor
open Go.RowKit Go.BigFrame Go.Maps
open Drv (posO edges edgeAt dupB)

def graphB (names : List ByteArray) (needs : List (List ByteArray)) : Bool := shortB names 30 && (decide (needs.length ≤ 40) && needs.all fun r => shortB r 30)
theorem graphB_few {names : List ByteArray} {needs : List (List ByteArray)} (h : graphB names needs = true) : Few names needs ∧ names.length ≤ 30 ∧ needs.length ≤ 40 ∧ (∀ r ∈ needs, r.length ≤ 30) := by
  unfold graphB at h
  rw [Bool.and_eq_true, Bool.and_eq_true, decide_eq_true_eq, List.all_eq_true] at h
  obtain ⟨h1, h2, h3⟩ := h
  obtain ⟨a1, a2, a3⟩ := shortB_small h1
  exact ⟨⟨by omega, by omega, fun r hr => by obtain ⟨b1, _, b3⟩ := shortB_small (h3 r hr); exact ⟨by omega, b3⟩, a3⟩, a1, h2, fun r hr => (shortB_small (h3 r hr)).1⟩
set_option maxRecDepth 100000 in
set_option maxHeartbeats 1600000 in
theorem graph_any (a b : Value) (names : List ByteArray) (needs : List (List ByteArray)) (w : World) (ha : TRow w AllB a names) (hb : TextsAt w b needs) (hs : Small names) (hss : ∀ r ∈ needs, Small r) :
    Calls Tryz.prog 25 #[a, b] w (YesAt (graphB names needs) w) := by
  have HP := Lib.hid (fun (c : Bool) (h : graphB names needs = c) (w' : World) (hw : ∃ nq, w' = w.drewN nq) => show YesAt (graphB names needs) w (.returned (.bool c)) w' from ⟨by rw [h], hw⟩)
  generalize YesAt (graphB names needs) w = post at *
  have HSA := Lib.hid (short_any a names 30 w ha hs (by omega))
  unfold YesAt at HSA
  have HBB := Lib.hid (fun q => show TextsAt (w.drewN q) b needs from hb.below (below_drewN (Below.refl _ _) q))
  obtain ⟨A, ca, rfl, hla, hma⟩ := RdS.form ha
  obtain ⟨B, cb, rfl, hlb, hmb⟩ := OutS.form hb
  unfold maxLen at hma hmb
  clear ha hb hs
  go_enter Tryz.func25, Tryz.ntmps25
  cases h1 : shortB names 30
  · have HF := Lib.hid (show graphB names needs = false by unfold graphB; rw [h1]; rfl)
    rw [h1] at HSA
    clear h1
    go_wp2_with fail
    refine HSA.out.mono ?_
    rintro e w1 ⟨rfl, nq, hw⟩
    go_wp2
    exact HP.out _ HF.out _ ⟨nq, rfl⟩
  · rw [h1] at HSA
    have HT1 := Lib.hid h1
    clear h1
    by_cases h2 : needs.length ≤ 40
    · have hi2 : ¬ (40 : Int) < (needs.length : Int) := by omega
      go_wp2_with fail
      refine HSA.out.mono ?_
      rintro e w1 ⟨rfl, nq, hw⟩
      have HW1 := Lib.hid hw
      clear hw
      go_wp2
      go_loopw [5] (fun iv wr => ∃ (k q : Nat), k ≤ needs.length ∧ iv = .int .i64 (k : Int) ∧ Hid (wr = w.drewN q) ∧ Hid (∀ j, j < k → shortB (needs.getD j []) 30 = true)) (fun iv _ => needs.length - (intOf iv).toNat)
      case atStart => exact ⟨0, nq, by omega, rfl, HW1, Lib.hid fun j h => absurd h (Nat.not_lt_zero j)⟩
      case round =>
        obtain ⟨k, q, hk, rfl, HW, HJ⟩ := hrel
        by_cases hlt : k < needs.length
        · obtain ⟨adb, u, rfl, hcu, hu⟩ := OutS.get (HBB.out q) k hlt
          rw [show needs.getD k default = needs.getD k [] from rfl] at hu
          rw [← HW.out] at hcu hu
          have hsm := hss _ (getD_row hlt)
          have hki : (k : Int) < (needs.length : Int) := by omega
          have HM := Lib.hid (getD_row hlt)
          obtain ⟨row, hrow⟩ : ∃ row, row = needs.getD k [] := ⟨_, rfl⟩
          rw [← hrow] at hu hsm HM
          have HSR := Lib.hid (short_any u row 30 wr hu hsm (by omega))
          obtain ⟨R, cr, rfl, _, _⟩ := RdS.form hu
          unfold YesAt at HSR
          clear hu hsm
          cases h3 : shortB row 30
          · rw [h3] at HSR
            have HF := Lib.hid (show graphB names needs = false by
              unfold graphB
              have : (needs.all fun r => shortB r 30) = false := by
                rw [Bool.eq_false_iff]
                intro h
                rw [List.all_eq_true] at h
                have := h row HM.out
                rw [h3] at this; cases this
              rw [this]; simp)
            clear h3 hrow
            go_wp2_with fail
            refine HSR.out.mono ?_
            rintro e w2 ⟨rfl, nq2, hw2⟩
            have HW2 := Lib.hid (show w2 = w.drewN (q + nq2) by rw [hw2, HW.out]; exact World.drewN_drewN _ _ _)
            clear hw2
            go_wp2
            exact HP.out _ HF.out _ ⟨_, HW2.out⟩
          · rw [h3] at HSR
            have HJ2 : Hid (∀ j, j < k + 1 → shortB (needs.getD j []) 30 = true) := Lib.hid fun j hj => by
              rcases Nat.lt_or_ge j k with h | h
              · exact HJ.out j h
              · obtain rfl : j = k := by omega
                rw [← hrow]; exact h3
            clear h3 hrow
            go_wp2_with fail
            refine HSR.out.mono ?_
            rintro e w2 ⟨rfl, nq2, hw2⟩
            have HW2 := Lib.hid (show w2 = w.drewN (q + nq2) by rw [hw2, HW.out]; exact World.drewN_drewN _ _ _)
            clear hw2
            go_wp2
            go_roundw
            case rel => exact ⟨k + 1, _, by omega, by go_num, HW2, HJ2⟩
            case measure => simp [intOf]; omega
        · have hki : ¬ (k : Int) < (needs.length : Int) := by omega
          have HF := Lib.hid (show graphB names needs = true by
            unfold graphB
            rw [HT1.out, decide_eq_true h2, Bool.true_and, Bool.true_and, List.all_eq_true]
            intro r hm
            obtain ⟨j, hj, e⟩ := List.mem_iff_getElem.1 hm
            have := HJ.out j (by omega)
            rw [List.getD_eq_getElem?_getD, List.getElem?_eq_getElem hj] at this
            simpa [← e] using this)
          go_wp2
          exact HP.out _ HF.out _ ⟨_, HW.out⟩
    · have hi2 : (40 : Int) < (needs.length : Int) := by omega
      have HF := Lib.hid (show graphB names needs = false by unfold graphB; rw [decide_eq_false h2]; simp)
      go_wp2_with fail
      refine HSA.out.mono ?_
      rintro e w1 ⟨rfl, nq, hw⟩
      go_wp2
      exact HP.out _ HF.out _ ⟨nq, rfl⟩
theorem same_ints (a b : Value) (xs : List Int) (w : World) (ha : IRow w AllB a xs) (hb : IRow w AllB b xs) : Calls Tryz.prog 28 #[a, b] w fun e w' => e = .returned (.bool true) ∧ Below w.heap.size w w' := same_is a b xs w ha hb
set_option maxRecDepth 100000 in
set_option maxHeartbeats 4000000 in
theorem drvSort_walk (a : Value) (names : List ByteArray) (b : Value) (needs : List (List ByteArray)) (w : World) (ht : Sha.Tabs w) (ha : TRow w AllB a names) (hs : Small names) (hb : TextsAt w b needs) (hss : ∀ r ∈ needs, Small r) :
    Calls Tryz.prog 10 #[a, b] w fun e w' => e = .returned (.bool true) ∧ Below w.heap.size w w' := by
  have HG := Lib.hid (graph_any a b names needs w ha hb hs hss)
  unfold YesAt at HG
  have HA := Lib.hid (fun (w1 : World) (h : Below w.heap.size w w1) => show TRow w1 AllB a names from RdS.below ha h)
  have HB := Lib.hid (fun (w1 : World) (h : Below w.heap.size w w1) => show TextsAt w1 b needs from hb.below h)
  have HT := Lib.hid (fun (w1 : World) (h : Below w.heap.size w w1) => ht.below h)
  obtain ⟨A, ca, rfl, _, _⟩ := RdS.form ha
  obtain ⟨B, cb, rfl, _, _⟩ := OutS.form hb
  clear ha hb ht hs hss
  go_enter Tryz.func10, Tryz.ntmps10
  cases hg : graphB names needs
  · rw [hg] at HG
    clear hg
    go_wp2_with fail
    refine HG.out.mono ?_
    rintro e w1 ⟨rfl, nq, hw⟩
    have HB1 := Lib.hid (show Below w.heap.size w w1 by rw [hw]; exact below_drewN (Below.refl _ _) _)
    clear hw
    go_wp2_with fail
    refine (works_any w1 (HT.out w1 HB1.out)).mono ?_
    rintro e w2 ⟨rfl, hb2⟩
    have HB2 := Lib.hid (step HB1.out hb2)
    clear hb2
    go_wp2
    go_ret
    exact ⟨rfl, HB2.out⟩
  · have HF := Lib.hid (graphB_few hg).1
    rw [hg] at HG
    clear hg
    go_wp2_with fail
    refine HG.out.mono ?_
    rintro e w1 ⟨rfl, nq, hw⟩
    have HB1 := Lib.hid (show Below w.heap.size w w1 by rw [hw]; exact below_drewN (Below.refl _ _) _)
    clear hw
    go_wp2_with fail
    refine (sort_is _ _ names needs w1 (HA.out w1 HB1.out) (HB.out w1 HB1.out) HF.out _ _ rfl rfl).mono ?_
    rintro e w2 ⟨A2, c2, rfl, hb2, hi2⟩
    have HB2 := Lib.hid (step HB1.out hb2)
    have HI2 := Lib.hid hi2
    clear hb2 hi2
    go_wp2_with fail
    refine (refSort_any _ _ names needs w2 (HA.out w2 HB2.out) (HB.out w2 HB2.out) HF.out).mono ?_
    rintro e w3 h3
    obtain ⟨A3, c3, rfl, hb3, hi3⟩ := h3.is
    have HB3 := Lib.hid (step HB2.out hb3)
    have HSM := Lib.hid (same_is _ _ (ofN (sortL names needs)) w3 (RdS.below HI2.out hb3) hi3)
    clear hb3 hi3 h3
    generalize sortL names needs = l at *
    generalize sortC names needs = c at *
    go_wp2_with fail
    refine HSM.out.mono ?_
    rintro e w4 ⟨rfl, hb4⟩
    have HB4 := Lib.hid (step HB3.out hb4)
    clear hb4
    go_wp2_with fail
    refine (works_any w4 (HT.out w4 HB4.out)).mono ?_
    rintro e w5 ⟨rfl, hb5⟩
    have HB5 := Lib.hid (step HB4.out hb5)
    clear hb5
    go_wp2
    go_ret
    exact ⟨rfl, HB5.out⟩
end Go.Proofs.YtbniilajffjfcaaGreatDoor
