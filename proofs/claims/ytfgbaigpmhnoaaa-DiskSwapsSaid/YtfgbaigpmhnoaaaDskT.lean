/- disk: what comes in; what DiskKeeps asks (maths). -/
import Derived.Test.YtfgbaigpmhnoaaaDskS
import Derived.Deep.SlicePairs
set_option linter.unusedVariables false
set_option linter.unusedSimpArgs false
namespace Go.Proofs.Ytfgbaigpmhnoaaa
open Go.ChangeShapes Go.WideShapes Go.ChangeAt Go.RowKit Go.BigFrame Go.Maps
open Dsk (Fl St Ok get put drop used)

def RB (w : World) (B : Nat) (v : Value) (l : List Nat) : Prop :=
  ∃ A cap, v = .slice A l.length cap ∧ l.length ≤ cap ∧ cap ≤ maxLen ∧ (A = none → cap = 0) ∧ Holds w B A l.length (fun i => l.getD i 0) ∧ ∀ x ∈ l, x < 256
theorem RB.below {w w' : World} {B : Nat} {v : Value} {l : List Nat} (h : RB w B v l) (hb : Below B w w') : RB w' B v l := by
  obtain ⟨A, cap, e, h1, h2, h3, h4, h5⟩ := h
  exact ⟨A, cap, e, h1, h2, h3, h4.below hb, h5⟩
def RRB (w : World) (B : Nat) (v : Value) (rs : List (List Nat)) : Prop :=
  ∃ A cap, v = .slice A rs.length cap ∧ rs.length ≤ cap ∧ cap ≤ maxLen ∧ ∀ i, i < rs.length → ∃ ad u, A = some ad ∧ ad.block < B ∧ w.cell? (ad.add i) = some u ∧ RB w B u (rs.getD i [])
theorem RRB.below {w w' : World} {B : Nat} {v : Value} {rs : List (List Nat)} (h : RRB w B v rs) (hb : Below B w w') : RRB w' B v rs := by
  obtain ⟨A, cap, e, h1, h2, h3⟩ := h
  refine ⟨A, cap, e, h1, h2, fun i hi => ?_⟩
  obtain ⟨ad, u, e1, e2, e3, e4⟩ := h3 i hi
  exact ⟨ad, u, e1, e2, (hb.cell (by rw [add_block]; exact e2)).trans e3, e4.below hb⟩
def RBo (w : World) (B : Nat) (v : Value) (bs : List Bool) : Prop :=
  ∃ A cap, v = .slice A bs.length cap ∧ bs.length ≤ cap ∧ cap ≤ maxLen ∧ ∀ i, i < bs.length → ∃ ad, A = some ad ∧ ad.block < B ∧ w.cell? (ad.add i) = some (.bool (bs.getD i false))
theorem RBo.below {w w' : World} {B : Nat} {v : Value} {bs : List Bool} (h : RBo w B v bs) (hb : Below B w w') : RBo w' B v bs := by
  obtain ⟨A, cap, e, h1, h2, h3⟩ := h
  refine ⟨A, cap, e, h1, h2, fun i hi => ?_⟩
  obtain ⟨ad, e1, e2, e3⟩ := h3 i hi
  exact ⟨ad, e1, e2, (hb.cell (by rw [add_block]; exact e2)).trans e3⟩
theorem cellsU8 : Try.prog.cellsOf 5 = 1 := by kernel_rfl
theorem cellsBool : Try.prog.cellsOf 4 = 1 := by kernel_rfl
theorem cellsBytes : Try.prog.cellsOf 29 = 1 := by kernel_rfl
theorem trod_bytes1 {H : Type} {enc : TypeId × Value → H} {w : World} {base : Nat} {sp : Nat → Bool} {held : Bool} {fuel : Nat} {v : Value} {x : DataW H × List MemPlace}
    (hf : DataW.trod enc Try.prog w base sp held fuel 29 [v] = some x) : ∃ l : List Nat, RB w w.heap.size v l := by
  rcases Go.Deep.open_slice1 Try.underlying29 cellsU8 hf with ⟨hcs, _⟩ | ⟨a, n, cap, m, k, V, D, Pl, hcs, _, hl, hm, hmm, _, hel⟩
  · have hv : v = .slice none 0 0 := by simpa using hcs
    subst hv
    exact ⟨[], none, 0, rfl, Nat.le_refl _, by decide, fun _ => rfl, (fun h => absurd h (by simp)), fun x h => by simp at h⟩
  · have hv : v = .slice (some a) n cap := by simpa using hcs
    subst hv
    have hnm : n ≤ m := by rw [hmm]; split <;> omega
    have hc : ∀ i, i < n → ∃ b : Nat, b < 256 ∧ w.cell? (a.add i) = some (.int .u8 (b : Int)) := by
      intro i hi
      obtain ⟨h2, h3⟩ := hel i (by omega)
      obtain ⟨b, eb, _, wb⟩ := DataW.trod_int Try.underlying5 h3
      have hb := bounds_u8 wb
      refine ⟨b.toNat, by omega, ?_⟩
      simp at eb
      rw [h2, eb]
      congr 2
      omega
    obtain ⟨f, hfz⟩ : ∃ f : Nat → Nat, ∀ i, i < n → f i < 256 ∧ w.cell? (a.add i) = some (.int .u8 (f i : Int)) := ⟨fun i => if h : i < n then Classical.choose (hc i h) else 0, fun i hi => by
      have := Classical.choose_spec (hc i hi)
      simp only [hi, dif_pos]
      exact this⟩
    have hlen : ((List.range n).map f).length = n := by simp
    refine ⟨(List.range n).map f, some a, cap, by rw [hlen], by rw [hlen]; exact hl, hm, (fun h => by cases h), fun hn => ⟨a, rfl, ?_, fun j hj => ?_⟩, fun x hx => ?_⟩
    · rw [hlen] at hn
      have := block_lt_of_cell (hfz 0 hn).2
      rwa [add_block] at this
    · rw [hlen] at hj
      rw [(hfz j hj).2]
      simp [hj, List.getD]
    · simp at hx
      obtain ⟨i, hi, rfl⟩ := hx
      exact (hfz i hi).1
set_option maxRecDepth 100000 in
theorem open_rows {H : Type} {enc : TypeId × Value → H} {w : World} {base : Nat} {sp : Nat → Bool} {held : Bool} {r : Reach} {b0 : Nat} {v : Value} {y : DataW H} {ps : List MemPlace} (_lt : ∀ x ∈ ps, x.block < w.heap.size)
    (hval : Value.okWide Try.prog w r b0 38 v) (hd : DataW.Trod enc Try.prog w base sp held 38 v y ps) :
    ∃ (a : Value) (rs : List (List Nat)), RRB w w.heap.size a rs ∧ a = v := by
  obtain ⟨A, n, cap, rfl⟩ := okWide_slice Try.underlying38 hval
  obtain ⟨fuel, hf⟩ := hd
  refine ⟨.slice A n cap, ?_⟩
  rcases Go.Deep.open_slice1 Try.underlying38 cellsBytes hf with ⟨hcs, _⟩ | ⟨a, len, cap', m, k, V, D, Pl, hcs, _, hl, hm, hmm, _, hel⟩
  · simp [Value.cells] at hcs
    obtain ⟨rfl, rfl, rfl⟩ := hcs
    exact ⟨[], ⟨none, 0, rfl, Nat.le_refl _, by decide, fun i h => absurd h (by simp)⟩, rfl⟩
  · simp [Value.cells] at hcs
    obtain ⟨rfl, rfl, rfl⟩ := hcs
    have hnm : n ≤ m := by rw [hmm]; split <;> omega
    have hc : ∀ i, i < n → ∃ row : List Nat, w.cell? (a.add i) = some (V i) ∧ RB w w.heap.size (V i) row := by
      intro i hi
      obtain ⟨h2, h3⟩ := hel i (by omega)
      obtain ⟨row, hrow⟩ := trod_bytes1 h3
      exact ⟨row, h2, hrow⟩
    obtain ⟨f, hfz⟩ : ∃ f : Nat → List Nat, ∀ i, i < n → w.cell? (a.add i) = some (V i) ∧ RB w w.heap.size (V i) (f i) := ⟨fun i => if h : i < n then Classical.choose (hc i h) else [], fun i hi => by
      have := Classical.choose_spec (hc i hi)
      simp only [hi, dif_pos]
      exact this⟩
    have hlen : ((List.range n).map f).length = n := by simp
    refine ⟨(List.range n).map f, ⟨some a, cap, by rw [hlen], by rw [hlen]; exact hl, hm, fun i hi => ?_⟩, rfl⟩
    rw [hlen] at hi
    obtain ⟨h1, h2⟩ := hfz i hi
    have hlt := block_lt_of_cell h1
    rw [add_block] at hlt
    refine ⟨a, V i, rfl, hlt, h1, ?_⟩
    have e : ((List.range n).map f).getD i [] = f i := by simp [List.getD, hi]
    rw [e]; exact h2
set_option maxRecDepth 100000 in
theorem open_bools {H : Type} {enc : TypeId × Value → H} {w : World} {base : Nat} {sp : Nat → Bool} {held : Bool} {r : Reach} {b0 : Nat} {v : Value} {y : DataW H} {ps : List MemPlace} (_lt : ∀ x ∈ ps, x.block < w.heap.size)
    (hval : Value.okWide Try.prog w r b0 39 v) (hd : DataW.Trod enc Try.prog w base sp held 39 v y ps) :
    ∃ (a : Value) (bs : List Bool), RBo w w.heap.size a bs ∧ a = v := by
  obtain ⟨A, n, cap, rfl⟩ := okWide_slice Try.underlying39 hval
  obtain ⟨fuel, hf⟩ := hd
  refine ⟨.slice A n cap, ?_⟩
  rcases Go.Deep.open_slice1 Try.underlying39 cellsBool hf with ⟨hcs, _⟩ | ⟨a, len, cap', m, k, V, D, Pl, hcs, _, hl, hm, hmm, _, hel⟩
  · simp [Value.cells] at hcs
    obtain ⟨rfl, rfl, rfl⟩ := hcs
    exact ⟨[], ⟨none, 0, rfl, Nat.le_refl _, by decide, fun i h => absurd h (by simp)⟩, rfl⟩
  · simp [Value.cells] at hcs
    obtain ⟨rfl, rfl, rfl⟩ := hcs
    have hnm : n ≤ m := by rw [hmm]; split <;> omega
    have hc : ∀ i, i < n → ∃ b : Bool, w.cell? (a.add i) = some (.bool b) := by
      intro i hi
      obtain ⟨h2, h3⟩ := hel i (by omega)
      obtain ⟨b, eb, _⟩ := DataW.trod_bool Try.underlying4 h3
      exact ⟨b, by rw [h2]; simpa using eb⟩
    obtain ⟨f, hfz⟩ : ∃ f : Nat → Bool, ∀ i, i < n → w.cell? (a.add i) = some (.bool (f i)) := ⟨fun i => if h : i < n then Classical.choose (hc i h) else false, fun i hi => by
      have := Classical.choose_spec (hc i hi)
      simp only [hi, dif_pos]
      exact this⟩
    have hlen : ((List.range n).map f).length = n := by simp
    refine ⟨(List.range n).map f, ⟨some a, cap, by rw [hlen], by rw [hlen]; exact hl, hm, fun i hi => ?_⟩, rfl⟩
    rw [hlen] at hi
    have h1 := hfz i hi
    have hlt := block_lt_of_cell h1
    rw [add_block] at hlt
    refine ⟨a, rfl, hlt, ?_⟩
    have e : ((List.range n).map f).getD i false = f i := by simp [List.getD, hi]
    rw [e]; exact h1
/-- What DiskKeeps knows of the disk. -/
def nF : ByteArray := ⟨#[102]⟩
structure KInv (S : St) (L : List Nat) (m c : Nat) : Prop where
  quota : S.quota = 10000
  steps : S.steps ≤ c
  fs : (S.fs = [] ∧ L = [] ∧ m = 0) ∨ ∃ ev, S.fs = [(nF, ⟨L, m, ev⟩)]
  mle : m ≤ L.length
theorem refC_f {S : St} (h : S.off = false) : refC S [nF] = 0 := by
  unfold refC
  rw [if_neg (by rw [h]; simp)]
  rfl
theorem stepS_fs (S : St) : (stepS S).fs = S.fs ∧ (stepS S).quota = S.quota ∧ (stepS S).steps = S.steps := by
  unfold stepS
  split <;> exact ⟨rfl, rfl, rfl⟩
theorem stepC_vals (a : Option Nat) : stepC a = 0 ∨ stepC a = 40 := by
  unfold stepC
  split
  · exact .inr rfl
  · exact .inl rfl
theorem KInv.append {S : St} {L l : List Nat} {m c : Nat} (h : KInv S L m c) (ho : S.off = false) (hl : L.length + l.length ≤ 3000) :
    KInv (appendS S nF l) (L ++ l) m (c + 1) ∧ (appendC S nF l = 0 ∨ appendC S nF l = 40) ∧ ∃ ev, (appendS S nF l).fs = [(nF, ⟨L ++ l, m, ev⟩)] := by
  have hu : used S.fs = L.length ∧ (getF S.fs nF).b = L ∧ ∃ ev, put S.fs nF (grow1 (getF S.fs nF) l) = [(nF, ⟨L ++ l, m, ev⟩)] := by
    rcases h.fs with ⟨h1, rfl, rfl⟩ | ⟨ev, h1⟩
    · rw [h1]
      exact ⟨rfl, rfl, false, rfl⟩
    · rw [h1]
      refine ⟨by simp [Dsk.used], ?_, ev, ?_⟩ <;> simp [getF, Dsk.get, Dsk.put, grow1]
  obtain ⟨h1, h2, ev, h3⟩ := hu
  have hr := refC_f ho
  have e : appendS S nF l = appS S nF l := by
    unfold appendS
    rw [if_neg (by simp [hr]), if_neg (by rw [h2]; omega), if_neg (by rw [h1, h.quota]; omega)]
  have e2 : appendC S nF l = stepC S.armed := by
    unfold appendC
    rw [if_neg (by simp [hr]), if_neg (by rw [h2]; omega), if_neg (by rw [h1, h.quota]; omega)]
  obtain ⟨g1, g2, g3⟩ := stepS_fs { plus1 S with fs := put S.fs nF (grow1 (getF S.fs nF) l) }
  have e3 : appS S nF l = stepS { plus1 S with fs := put S.fs nF (grow1 (getF S.fs nF) l) } := by unfold appS stepEnd; rw [if_neg (by simp)]
  rw [e, e2, e3]
  refine ⟨⟨by rw [g2]; exact h.quota, by rw [g3]; have := h.steps; show S.steps + 1 ≤ _; omega, .inr ⟨ev, by rw [g1]; exact h3⟩, by have := h.mle; rw [List.length_append]; omega⟩, stepC_vals _, ev, by rw [g1]; exact h3⟩
theorem KInv.sync {S : St} {L : List Nat} {m c : Nat} (h : KInv S L m c) (ho : S.off = false) (hf : ∃ ev, S.fs = [(nF, ⟨L, m, ev⟩)]) :
    (syncC S nF = 0 ∧ KInv (syncS S nF) L L.length (c + 1)) ∨ (syncC S nF = 40 ∧ KInv (syncS S nF) L m (c + 1)) := by
  obtain ⟨ev, hf⟩ := hf
  have hr := refC_f ho
  have hg : get S.fs nF = some ⟨L, m, ev⟩ := by rw [hf]; simp [Dsk.get]
  have hp : put S.fs nF (settleF ⟨L, m, ev⟩) = [(nF, ⟨L, L.length, true⟩)] := by rw [hf]; simp [Dsk.put, settleF]
  have e : syncS S nF = stepEnd S { plus1 S with fs := put S.fs nF (settleF ⟨L, m, ev⟩) } false := by
    unfold syncS
    rw [if_neg (by simp [hr]), hg]
  have e2 : syncC S nF = stepC S.armed := by
    unfold syncC
    rw [if_neg (by simp [hr]), hg]
  have hs := h.steps
  rw [e, e2]
  unfold stepEnd
  by_cases ha : S.armed = some 0
  · right
    rw [if_pos ⟨ha, rfl⟩]
    refine ⟨by unfold stepC; rw [if_pos ha], h.quota, (show S.steps + 1 ≤ c + 1 by omega), .inr ⟨ev, hf⟩, h.mle⟩
  · left
    rw [if_neg (fun hh => ha hh.1)]
    obtain ⟨g1, g2, g3⟩ := stepS_fs { plus1 S with fs := put S.fs nF (settleF ⟨L, m, ev⟩) }
    refine ⟨by unfold stepC; rw [if_neg ha], by rw [g2]; exact h.quota, by rw [g3]; show S.steps + 1 ≤ c + 1; omega, .inr ⟨true, by rw [g1]; exact hp⟩, Nat.le_refl _⟩
def lastS (S : St) (k : Int) : St := onS { S with off := true, armed := none } [k]
theorem KInv.last {S : St} {L : List Nat} {m c : Nat} (h : KInv S L m c) (k : Int) :
    (readC (lastS S k) nF = 5 ∧ m = 0 ∧ readB (lastS S k) nF = []) ∨ ∃ j, readC (lastS S k) nF = 0 ∧ readB (lastS S k) nF = L.take j ∧ m ≤ j ∧ j ≤ L.length := by
  have hoff : (lastS S k).off = false := by unfold lastS onS; rfl
  have hr := refC_f hoff
  have hfs : (lastS S k).fs = recAll [k] 0 S.fs := by unfold lastS onS; rfl
  unfold readC readB
  rw [if_neg (by simp [hr]), if_neg (by simp [hr]), hfs]
  rcases h.fs with ⟨h1, rfl, rfl⟩ | ⟨ev, h1⟩
  · rw [h1]
    exact .inl ⟨rfl, rfl, rfl⟩
  · rw [h1]
    have hs := staysN_le k (L.length - m)
    have hm := h.mle
    unfold recAll
    by_cases hz : (recF ⟨L, m, ev⟩ ([k].getD 0 0)).sure = 0 ∧ (⟨L, m, ev⟩ : Fl).ever = false
    · rw [if_pos hz]
      have : m + staysN k (L.length - m) = 0 := hz.1
      exact .inl ⟨rfl, by omega, rfl⟩
    · rw [if_neg hz]
      refine .inr ⟨m + staysN k (L.length - m), ?_, ?_, by omega, by omega⟩
      · simp [Dsk.get, recAll]
      · simp [getF, Dsk.get, recAll, recF]
end Go.Proofs.Ytfgbaigpmhnoaaa
