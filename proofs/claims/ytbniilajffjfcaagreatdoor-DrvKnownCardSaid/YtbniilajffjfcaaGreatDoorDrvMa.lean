/- drv: what DrvKnown's rows hold. -/
import Derived.Test.YtbniilajffjfcaaGreatDoorDrvKd
import Derived.Test.YtbniilajffjfcaaGreatDoorDrvKj
import Derived.Test.YtbniilajffjfcaaGreatDoorDrvJc
import Derived.Test.YtbniilajffjfcaaGreatDoorInv
set_option linter.unusedVariables false
set_option linter.unusedSimpArgs false
namespace Go.Proofs.YtbniilajffjfcaaGreatDoor
open Go.RowKit Go.BigFrame

theorem lets_any (d : Nat → Nat) (hd : ∀ i, d i < 256) (w : World) : Calls Tryz.prog 4 #[.agg (digA d 32)] w fun e w' => ∃ s : ByteArray, e = .returned (.string s) ∧ s.size = 32 ∧ Below w.heap.size w w' := by
  refine (Nam.letters_any d hd w).mono ?_
  rintro e w' ⟨rfl, hb⟩
  exact ⟨_, rfl, by show (Nam.letters (Nam.num d 20) 32).length = 32; simp [Nam.letters], hb⟩
/-- What region 13's slots hold. -/
def TxK (v : Value) : Prop := ∃ s : ByteArray, v = .string s ∧ s.size ≤ 1000
def TxL (v : Value) : Prop := ∃ s : ByteArray, v = .string s ∧ s.size = 61
def RowTs (v : Value) (w : World) : Prop := ∃ l, TRow w AllB v l ∧ Small l
def RowM (v : Value) (w : World) : Prop := ∃ l, TRow w AllB v l ∧ Small l ∧ l.length = 65
structure D3 where
  nm : ByteArray
  iv : Value
  ins : List ByteArray
  rc : ByteArray
instance : Inhabited D3 := ⟨⟨⟨#[]⟩, .slice none 0 0, [], ⟨#[]⟩⟩⟩
def d3V (x : D3) : List Value := [.string x.nm, x.iv, .string x.rc]
structure D3Ok (w : World) (x : D3) : Prop where
  row : TRow w AllB x.iv x.ins
  small : Small x.ins
  nm : x.nm.size ≤ maxLen
  rc : x.rc.size ≤ maxLen
def DrvV (v : Value) (w : World) : Prop := ∃ x : D3, v = .agg (d3V x).toArray ∧ D3Ok w x
def DrvsV (v : Value) (w : World) : Prop := ∃ (ad : Addr) (x : Nat → D3), v = .slice (some ad) 11 11 ∧ ad.block < w.heap.size ∧ ∀ i, i < 11 → D3Ok w (x i) ∧ ∀ j u, (d3V (x i))[j]? = some u → w.cell? ((ad.add (i * 3)).add j) = some u
theorem D3Ok.below {w w' : World} {x : D3} (h : D3Ok w x) (hb : Below w.heap.size w w') : D3Ok w' x := ⟨RdS.below h.row hb, h.small, h.nm, h.rc⟩
theorem RowTs.below {v : Value} {w w' : World} (h : RowTs v w) (hb : Below w.heap.size w w') : RowTs v w' := by
  obtain ⟨l, h1, h2⟩ := h
  exact ⟨l, RdS.below h1 hb, h2⟩
theorem RowM.below {v : Value} {w w' : World} (h : RowM v w) (hb : Below w.heap.size w w') : RowM v w' := by
  obtain ⟨l, h1, h2, h3⟩ := h
  exact ⟨l, RdS.below h1 hb, h2, h3⟩
theorem DrvV.below {v : Value} {w w' : World} (h : DrvV v w) (hb : Below w.heap.size w w') : DrvV v w' := by
  obtain ⟨x, e, h1⟩ := h
  exact ⟨x, e, h1.below hb⟩
theorem addB (ad : Addr) (k : Nat) : (ad.add k).block = ad.block := by unfold Addr.add; by_cases h0 : k = 0 <;> simp [h0]
theorem DrvsV.below {v : Value} {w w' : World} (h : DrvsV v w) (hb : Below w.heap.size w w') : DrvsV v w' := by
  obtain ⟨ad, x, e, h1, h2⟩ := h
  refine ⟨ad, x, e, Nat.lt_of_lt_of_le h1 hb.size, fun i hi => ⟨(h2 i hi).1.below hb, fun j u hu => ?_⟩⟩
  rw [← (h2 i hi).2 j u hu]
  exact hb.cell (by rw [addB, addB]; exact h1)
theorem DrvV.mk {w : World} {s v t : Value} (hs : TxK s) (hv : RowTs v w) (ht : TxK t) : DrvV (.agg #[s, v, t]) w := by
  obtain ⟨s, rfl, hs⟩ := hs
  obtain ⟨t, rfl, ht⟩ := ht
  obtain ⟨l, h1, h2⟩ := hv
  exact ⟨⟨s, v, l, t⟩, rfl, h1, h2, by show s.size ≤ maxLen; unfold maxLen; omega, by show t.size ≤ maxLen; unfold maxLen; omega⟩
theorem RowTs.form {v : Value} {w : World} (h : RowTs v w) : ∃ A n c, v = .slice A n c := by
  obtain ⟨l, h1, _⟩ := h
  obtain ⟨A, c, e, _⟩ := RdS.form h1
  exact ⟨A, _, c, e⟩
theorem RowTs.nil (w : World) : RowTs (.slice none 0 0) w := ⟨[], RdS.nil _ _, fun s hs => by simp at hs⟩
theorem TxK.lit (s : ByteArray) (h : s.size ≤ 1000) : TxK (.string s) := ⟨s, rfl, h⟩
theorem TxL.txk {v : Value} (h : TxL v) : TxK v := by
  obtain ⟨s, e, h⟩ := h
  exact ⟨s, e, by omega⟩
theorem RowM.rowTs {v : Value} {w : World} (h : RowM v w) : RowTs v w := by
  obtain ⟨l, h1, h2, _⟩ := h
  exact ⟨l, h1, h2⟩
theorem small_of {l : List ByteArray} (h : ∀ s ∈ l, s.size ≤ 1000) : Small l := fun s hs => by have := h s hs; unfold maxLen; omega
/-- A row of two texts, just built. -/
theorem row2 {w : World} {x y : Value} (hx : TxK x) (hy : TxK y) : RowTs (.slice (some ⟨w.heap.size, 0, none⟩) 2 2) (w.alloc (.cells #[x, y] 9)) := by
  obtain ⟨s, rfl, hs⟩ := hx
  obtain ⟨t, rfl, ht⟩ := hy
  exact ⟨[s, t], trow_new w #[.string s, .string t] 9 [s, t] rfl (by simp), small_of (by
    intro u hu
    simp only [List.mem_cons, List.not_mem_nil, or_false] at hu
    rcases hu with rfl | rfl <;> assumption)⟩
theorem row1 {w : World} {x : Value} (hx : TxK x) : RowTs (.slice (some ⟨w.heap.size, 0, none⟩) 1 1) (w.alloc (.cells #[x] 9)) := by
  obtain ⟨s, rfl, hs⟩ := hx
  exact ⟨[s], trow_new w #[.string s] 9 [s] rfl (by simp), small_of (by
    intro u hu
    simp only [List.mem_cons, List.not_mem_nil, or_false] at hu
    subst hu; assumption)⟩
/-- The row without its first text. -/
theorem TRow.tail {w : World} {A : Option Addr} {n cap : Nat} {s : ByteArray} {l : List ByteArray} (h : TRow w AllB (.slice A n cap) (s :: l)) (hc : 1 < cap) : TRow w AllB (.slice (A.map (·.add 1)) (n - 1) (cap - 1)) l := by
  obtain ⟨A', cap', e, h1, h2, h3, h4⟩ := h
  cases e
  refine ⟨_, _, rfl, by simp at h1 ⊢; omega, by omega, fun h => ?_, fun h0 => ?_⟩
  · cases A with
    | none => simp at h3; omega
    | some ad => cases h
  · obtain ⟨ad, e, hl, _, hcell⟩ := h4 (by simp)
    subst e
    refine ⟨ad.add 1, rfl, by rw [addB]; exact hl, trivial, fun j u hu => ?_⟩
    rw [add_add, Nat.add_comm]
    exact hcell (j + 1) u (by simpa [strs] using hu)
def R13 (k : Nat) (v : Value) (w : World) : Prop := match k with
  | 0 => TxK v
  | 1 => DrvV v w
  | 2 => RowTs v w
  | 3 => TxL v
  | 4 => RowM v w
  | 5 => DrvsV v w
  | _ => True
theorem R13_below {k : Nat} {v : Value} {w w' : World} (h : R13 k v w) (hb : Below w.heap.size w w') : R13 k v w' := by
  unfold R13 at *
  split at h
  · exact h
  · exact DrvV.below h hb
  · exact RowTs.below h hb
  · exact h
  · exact RowM.below h hb
  · exact DrvsV.below h hb
  · exact trivial
def kinds13 : List Nat := [1, 0, 0, 2, 1, 0, 0, 2, 1, 0, 0, 2, 1, 2, 1, 1, 3, 1, 3, 0, 1, 4, 1, 4, 2, 1, 1, 5, 5]
end Go.Proofs.YtbniilajffjfcaaGreatDoor
