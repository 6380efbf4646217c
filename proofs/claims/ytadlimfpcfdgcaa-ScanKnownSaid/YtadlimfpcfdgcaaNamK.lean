/- Contracts of Fits, of naming and of its reference. -/
import Derived.Test.YtadlimfpcfdgcaaNamJ
import Derived.Test.YtadlimfpcfdgcaaNamL
import Derived.Laws.Cover3
import Derived.Deep.MidRow
set_option linter.unusedVariables false
set_option linter.unusedSimpArgs false
namespace Go.Proofs.Ytadlimfpcfdgcaa.Nam
open Go.RowKit

theorem quiet_load {P : Program} {C : World → Prop} {a : Act} {o : Oper} {K : Act → Prop} (ty : TypeId) (x : Operand) (ho : o.op = .load ty x) (cs : Array Value)
    (h : ∀ w, C w → (Instr.loadAt ty (a.eval x)).run P w = .ok (.agg cs) w) (hk : K (a.put o.dst (.agg cs))) : o.quiet P a C K :=
  ⟨_, fun w hw => by
    unfold Oper.quietAt execOp
    simp only [ho, Sem.run_bind, h w hw, Result.andThen_ok, Sem.run_pure]
    exact ⟨rfl, rfl⟩, hk⟩

theorem wpList_load_row_g {P : Program} {ops : Array Oper} {rest : List Oper} {o : Oper} {a : Act} {w : World} {Q : Exit → Act → World → Prop} (hw : Region.wanted o (yielded ops a.tmps) = true) (ty : TypeId) (x : Operand) (ho : o.op = .load ty x)
    (g : Nat) (hx : a.eval x = .pointer (some ⟨g, 0, none⟩)) (t : TypeId) (cs : Array Value) (fr : Nat × Nat) (d : TypeDesc) (hg : w.heap[g]? = some (.cells cs t fr))
    (hu : P.underlying ty = some d) (hd : (match d with | .struct _ | .array _ _ => true | _ => false) = true) (hi : (P.info? ty).map (·.size) = some cs.size)
    (h : wpList P ops Q rest (a.put o.dst (.agg cs)) w) : wpList P ops Q (o :: rest) a w :=
  BigFrame.wpList_want hw fun _ hK => wp_load_row ty x ho g hx t cs fr d hg hu hd hi (hK _ _ h)

def fitB (s : ByteArray) (d : Nat → Nat) : Bool := okP s && sameB (outD (headS s)) d
theorem rows_store (W w3 : World) (B : Nat) (Z : Obj) (X : Array Value) (c : Array Value) (t T : TypeId) (hb : Below W.heap.size W w3) (hZ : ∃ old, Z = .cells old T (0, 0)) (hB : B < w3.heap.size) (hc : w3.heap[B]? = some (.cells c t (0, 0))) :
    ∃ w4, w4 = (w3.alloc Z).setRow w3.heap.size X ∧ w4.heap[w3.heap.size]? = some (.cells X T (0, 0)) ∧ w4.heap[B]? = some (.cells c t (0, 0)) ∧ Below W.heap.size W w4 := by
  obtain ⟨old, rfl⟩ := hZ
  refine ⟨_, rfl, setRow_heap _ _ _ _ _ _ (heap_alloc_new _ _), ?_, below_store hb _ _ hb.size⟩
  rw [setRow_other _ _ _ _ (by omega)]
  exact (heap_alloc_old _ _ hB).trans hc
theorem range_of_row (w : World) (g : Nat) (cs : Array Value) (t : TypeId) (fr : Nat × Nat) (l : List Value) (hg : w.heap[g]? = some (.cells cs t fr)) (hl : ∀ (j : Nat) (v : Value), l[j]? = some v → cs[j]? = some v) : w.rangeAt g 0 l := fun j v hv => by
  rw [cell_of_row w g (0 + j) cs t fr hg, Nat.zero_add]
  exact hl j v hv
theorem cells_pre (d : Nat → Nat) (m n : Nat) (h : m ≤ n) (j : Nat) (v : Value) (hv : (cells d m)[j]? = some v) : (digA d n)[j]? = some v := by
  have hj : j < m := by
    have := (List.getElem?_eq_some_iff.1 hv).1
    simpa [cells] using this
  rw [cells_get d m j hj] at hv
  rw [digA_get d n j (by omega)]
  exact hv

/-! ### Letters and bytes are each other's -/
theorem letters_of_okL (s : ByteArray) (h : okL s = true) : s.data.toList = letters (numL (letV s) 32) 32 := by
  have h1 : s.size = 32 := by simp [okL] at h; exact h.1
  have h2 : ∀ c ∈ s.data.toList, 0 ≤ valI c := by
    have : s.data.toList.all (fun c => decide (0 ≤ valI c)) = true := by
      have h' := h
      unfold okL at h'
      rw [Bool.and_eq_true] at h'
      exact h'.2
    intro c hc
    have := List.all_eq_true.1 this c hc
    simpa using this
  apply List.ext_getElem?
  intro i
  by_cases hi : i < 32
  · have hs : i < s.data.toList.length := by rw [show s.data.toList.length = s.size from rfl]; omega
    have e1 : s.data.toList[i]? = some (s.data.toList.getD i 0) := by simp [List.getD, List.getElem?_eq_getElem hs]
    have hm : s.data.toList.getD i 0 ∈ s.data.toList := List.mem_of_getElem? e1
    have hv := h2 _ hm
    have e2 : (letters (numL (letV s) 32) 32)[i]? = some (abc.getD (letV s i) 0) := by
      simp [letters, hi, numL_letNo (letV s) (letV_lt s) i hi]
    rw [e1, e2]
    congr 1
    have hidx : Lib.indexByte abc (s.data.toList.getD i 0) = ((letV s i : Nat) : Int) := by
      unfold letV valI at *
      omega
    obtain ⟨h3, _⟩ := Lib.indexByte_some hidx
    simp [List.getD, h3]
  · rw [List.getElem?_eq_none (by rw [show s.data.toList.length = s.size from rfl]; omega), List.getElem?_eq_none (by rw [letters_len]; omega)]
theorem abc_val : ∀ v : Fin 32, valI (abc.getD v.val 0) = (v.val : Int) := by decide +kernel
theorem okL_letS (d : Nat → Nat) : okL (letS d) = true := by
  have e : ∀ c ∈ letters (num d 20) 32, 0 ≤ valI c := by
    intro c hc
    simp [letters] at hc
    obtain ⟨j, _, rfl⟩ := hc
    have := abc_val ⟨_, letNo_lt (num d 20) j⟩
    simp [List.getD] at this
    rw [this]
    exact Int.natCast_nonneg _
  have hz := letS_size d
  unfold okL
  rw [hz]
  simp only [decide_true, Bool.true_and, List.all_eq_true]
  intro c hc
  exact decide_eq_true (e c hc)
theorem letV_letS (d : Nat → Nat) (i : Nat) (hi : i < 32) : letV (letS d) i = letNo (num d 20) i := by
  unfold letV
  have : (letS d).data.toList.getD i 0 = abc.getD (letNo (num d 20) i) 0 := by
    show (letters (num d 20) 32).getD i 0 = _
    simp [letters, List.getD, hi]
  rw [this, abc_val ⟨_, letNo_lt (num d 20) i⟩]
  simp
theorem preNo_num (M k : Nat) (hM : M < 2 ^ 160) (hk : k ≤ 32) : numL (letNo M) k = M / 2 ^ (160 - 5 * k) := by
  induction k with
  | zero => simp only [numL]; rw [Nat.div_eq_of_lt (by simpa using hM)]
  | succ k ih =>
    show numL (letNo M) k * 32 + letNo M k = _
    rw [ih (by omega), letNo, show 160 - 5 * k = (155 - 5 * k) + 5 from by omega, Nat.pow_add, ← Nat.div_div_eq_div_mul, show 160 - 5 * (k + 1) = 155 - 5 * k from by omega]
    omega
theorem num160 (d : Nat → Nat) (hd : ∀ i, d i < 256) : num d 20 < 2 ^ 160 := Nat.lt_of_lt_of_le (num_lt d hd 20) (by rw [show (256 : Nat) ^ 20 = 2 ^ 160 from by decide +kernel]; exact Nat.le_refl _)
theorem outD_letS (d : Nat → Nat) (hd : ∀ i, d i < 256) (i : Nat) (hi : i < 20) : outD (letS d) i = d i := by
  rw [outD_yes _ (okL_letS d), numL_congr _ (letNo (num d 20)) 32 (fun i hi => letV_letS d i hi), preNo_num _ 32 (num160 d hd) (Nat.le_refl _), show 160 - 5 * 32 = 0 from rfl, Nat.pow_zero, Nat.div_one]
  exact num_byteNo d hd i hi
theorem num_congr (d e : Nat → Nat) (k : Nat) (h : ∀ i, i < k → d i = e i) : num d k = num e k := by
  induction k with
  | zero => rfl
  | succ k ih => simp only [num]; rw [ih fun i hi => h i (by omega), h k (by omega)]
theorem num_bytes (M k : Nat) (hM : M < 2 ^ 160) (hk : k ≤ 20) : num (byteNo M) k = M / 2 ^ (160 - 8 * k) := by
  induction k with
  | zero => simp only [num]; rw [Nat.div_eq_of_lt (by simpa using hM)]
  | succ k ih =>
    show num (byteNo M) k * 256 + byteNo M k = _
    rw [ih (by omega), byteNo, show 160 - 8 * k = (152 - 8 * k) + 8 from by omega, Nat.pow_add, ← Nat.div_div_eq_div_mul, show 160 - 8 * (k + 1) = 152 - 8 * k from by omega]
    omega
/-- The letters are a digest's just if the bytes are. -/
theorem fit_iff (s : ByteArray) (d : Nat → Nat) (hd : ∀ i, d i < 256) (h : okL s = true) : (s.toList == (letS d).toList) = sameB (outD s) d := by
  rw [Bool.eq_iff_iff, beq_iff_eq, ByteArray.toList_eq, ByteArray.toList_eq]
  constructor
  · intro e
    have : s = letS d := str_ext e
    subst this
    rw [sameB, List.all_eq_true]
    intro i hi
    rw [outD_letS d hd i (by simpa using hi)]
    simp
  · intro e
    rw [letters_of_okL s h]
    have hM := numS_lt s
    unfold numS at hM
    have e2 : num d 20 = num (outD s) 20 := num_congr _ _ _ fun i hi => by
      rw [sameB, List.all_eq_true] at e
      have := e i (by simpa using hi)
      exact (beq_iff_eq.1 this).symm
    have e4 : ∀ M : Nat, M / 2 ^ (160 - 8 * 20) = M := fun M => by rw [show 160 - 8 * 20 = 0 from rfl, Nat.pow_zero, Nat.div_one]
    have e3 : num d 20 = numL (letV s) 32 := e2.trans (by
      rw [outD_yes s h]
      exact (num_bytes _ 20 hM (Nat.le_refl _)).trans (e4 _))
    exact (congrArg (fun M => letters M 32) e3).symm
end Go.Proofs.Ytadlimfpcfdgcaa.Nam
