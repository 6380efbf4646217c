/- Rows that a slice reads as; texts in rows; SameTexts. (Drawn out of version's texts G, J, W: for stages that import none of version's.) -/
import Derived.Test.YtadlimfpcfdgcaaProg
import Derived.Test.YtadlimfpcfdgcaaBase
import Derived.LoopTactic
set_option linter.unusedVariables false
set_option linter.unusedSimpArgs false
namespace Go.Proofs.Ytadlimfpcfdgcaa
open Go.RowKit Go.BigFrame

/-- A slice of one-cell values, that lies below block B. -/
def Reads (w : World) (B : Nat) (v : Value) (xs : List Value) : Prop :=
  ∃ A cap, v = .slice A xs.length cap ∧ xs.length ≤ cap ∧ cap ≤ maxLen ∧ (A = none → cap = 0) ∧ (0 < xs.length → ∃ ad, A = some ad ∧ ad.block < B ∧ ∀ j u, xs[j]? = some u → w.cell? (ad.add j) = some u)
theorem Reads.below {w w' : World} {B : Nat} {v : Value} {xs : List Value} (h : Reads w B v xs) (hb : Below B w w') : Reads w' B v xs := by
  obtain ⟨A, cap, e, h1, h2, h3, h4⟩ := h
  exact ⟨A, cap, e, h1, h2, h3, fun hn => by
    obtain ⟨ad, e2, hl, hc⟩ := h4 hn
    exact ⟨ad, e2, hl, fun j u hu => (hb.cell (by rw [add_block]; exact hl)).trans (hc j u hu)⟩⟩
theorem Reads.more {w : World} {B B' : Nat} {v : Value} {xs : List Value} (h : Reads w B v xs) (hb : B ≤ B') : Reads w B' v xs := by
  obtain ⟨A, cap, e, h1, h2, h3, h4⟩ := h
  exact ⟨A, cap, e, h1, h2, h3, fun hn => by
    obtain ⟨ad, e2, hl, hc⟩ := h4 hn
    exact ⟨ad, e2, by omega, hc⟩⟩
theorem Reads.own {w : World} {base n : Nat} {e : TypeId} {v : Value} {xs : List Value} (h : w.ownsRow base e 1 v n xs) : Reads w w.heap.size v xs := by
  obtain ⟨hl, ⟨rfl, rfl⟩ | ⟨g, cap, cur, rfl, hg, hgg, h1, h2, h3, h4⟩⟩ := h
  · have : xs = [] := List.eq_nil_of_length_eq_zero (by omega)
    subst this
    exact ⟨none, 0, rfl, Nat.le_refl _, Nat.zero_le _, fun _ => rfl, fun h => absurd h (by simp)⟩
  · rw [Nat.mul_one] at hl h4
    refine ⟨_, cap, by rw [hl], by omega, h2, (fun h => by cases h), fun hn => ⟨_, rfl, block_lt hgg, fun j u hu => ?_⟩⟩
    have hj : j < n := by have := (List.getElem?_eq_some_iff.1 hu).1; omega
    have hx : cur[j]? = some u := by
      rw [← h4, List.getElem?_take, if_pos hj] at hu
      simpa using hu
    have e : (⟨g, 0, none⟩ : Addr).add j = ⟨g, j, none⟩ := by unfold Addr.add; by_cases h0 : j = 0 <;> simp [h0]
    rw [e, cell_of_row _ _ _ _ _ _ hgg, hx]
theorem Reads.nil (w : World) (B : Nat) : Reads w B (.slice none 0 0) [] := ⟨none, 0, rfl, Nat.le_refl _, Nat.zero_le _, fun _ => rfl, fun h => absurd h (by simp)⟩
def ints (xs : List Int) : List Value := xs.map (Value.int .i64)
def byts (xs : List Int) : List Value := xs.map (Value.int .u8)
theorem ints_get (xs : List Int) (k : Nat) (h : k < xs.length) : (ints xs)[k]? = some (.int .i64 (xs.getD k 0)) := by simp [ints, h]
theorem byts_get (xs : List Int) (k : Nat) (h : k < xs.length) : (byts xs)[k]? = some (.int .u8 (xs.getD k 0)) := by simp [byts, h]
theorem ints_len (xs : List Int) : (ints xs).length = xs.length := by simp [ints]
theorem byts_len (xs : List Int) : (byts xs).length = xs.length := by simp [byts]
theorem cell_drew {w wr : World} {n : Nat} (h : wr = w.drewN n) (p : Addr) : wr.cell? p = w.cell? p := by
  subst h
  induction n with
  | zero => rfl
  | succ n ih => exact ih
def strs (ss : List ByteArray) : List Value := ss.map Value.string
theorem strs_len (ss : List ByteArray) : (strs ss).length = ss.length := by simp [strs]
theorem strs_get (ss : List ByteArray) (k : Nat) (h : k < ss.length) : (strs ss)[k]? = some (.string (ss.getD k ⟨#[]⟩)) := by simp [strs, h]
theorem list_ne {α : Type} (xs ys : List α) (d : α) (k : Nat) (h : xs.getD k d ≠ ys.getD k d) : xs ≠ ys := fun e => h (by rw [e])
theorem list_eq {α : Type} (xs ys : List α) (d : α) (hl : xs.length = ys.length) (h : ∀ j, j < xs.length → xs.getD j d = ys.getD j d) : xs = ys := by
  apply List.ext_getElem hl
  intro j h1 h2
  have := h j h1
  simpa [List.getD, h1, h2] using this
theorem str_ne_iff (x y : ByteArray) : (x.toList == y.toList) = decide (x = y) := by
  rw [Lib.toList_data, Lib.toList_data, Bool.eq_iff_iff]
  simp only [beq_iff_eq, decide_eq_true_eq]
  exact ⟨str_ext, fun e => by rw [e]⟩
/-- A new row of texts. -/
theorem reads_new (w : World) (cs : Array Value) (T : TypeId) (xs : List Value) (h : cs.toList = xs) (hn : xs.length ≤ 1000) : Reads (w.alloc (.cells cs T)) (w.alloc (.cells cs T)).heap.size (.slice (some ⟨w.heap.size, 0, none⟩) xs.length xs.length) xs :=
  ⟨_, _, rfl, Nat.le_refl _, by unfold maxLen; omega, (fun h => by cases h), fun _ => ⟨_, rfl, by simp, fun j u hu => row_cells (heap_alloc_new w (.cells cs T)) j u (by rw [← hu, ← h]; simp)⟩⟩
set_option maxRecDepth 100000 in
set_option maxHeartbeats 800000 in
theorem sameTexts_any (a b : Value) (xs ys : List ByteArray) (B : Nat) (w : World) (ha : Reads w B a (strs xs)) (hb : Reads w B b (strs ys)) :
    Calls Try.prog 9 #[a, b] w fun e w' => e = .returned (.bool (decide (xs = ys))) ∧ ∃ nq, w' = w.drewN nq := by
  obtain ⟨A, ca, rfl, hla, hma, hza, hra⟩ := ha
  obtain ⟨A', cb, rfl, hlb, hmb, hzb, hrb⟩ := hb
  simp only [strs_len] at *
  have HRA := Lib.hid hra
  have HRB := Lib.hid hrb
  unfold maxLen at *
  clear hra hrb hza hzb
  by_cases hl : xs.length = ys.length
  · have HL := Lib.hid hl
    have hbn : ((xs.length : Int) != (ys.length : Int)) = false := by rw [hl]; simp
    have hl1 : xs.length ≤ ys.length := by omega
    clear hl
    go_enter Try.func9, Try.ntmps9
    go_wp2
    go_loopw [5] (fun i wr => ∃ (k nq : Nat), k ≤ xs.length ∧ i = .int .i64 k ∧ Hid (wr = w.drewN nq) ∧ Hid (∀ j, j < k → xs.getD j ⟨#[]⟩ = ys.getD j ⟨#[]⟩)) (fun i _ => xs.length - (intOf i).toNat)
    case atStart => exact ⟨0, 0, by omega, rfl, Lib.hid rfl, Lib.hid fun j h => absurd h (Nat.not_lt_zero j)⟩
    case round =>
      obtain ⟨k, nq, hk, rfl, HW, HS⟩ := hrel
      by_cases hlt : k < xs.length
      · obtain ⟨ad, rfl, hbl, hc⟩ := HRA.out (by omega)
        obtain ⟨ad', rfl, hbl', hc'⟩ := HRB.out (by omega)
        have hcx := (cell_drew HW.out _).trans (hc k _ (strs_get xs k (by omega)))
        have hcy := (cell_drew HW.out _).trans (hc' k _ (strs_get ys k (by omega)))
        clear hc hc' hbl hbl'
        have hi1 : (k : Int) < (xs.length : Int) := by omega
        have hi2 : (k : Int) < (ys.length : Int) := by omega
        have hi0 : (0 : Int) ≤ (k : Int) := by omega
        obtain ⟨x, hx⟩ : ∃ x, x = xs.getD k ⟨#[]⟩ := ⟨_, rfl⟩
        obtain ⟨y, hy⟩ : ∃ y, y = ys.getD k ⟨#[]⟩ := ⟨_, rfl⟩
        rw [← hx] at hcx
        rw [← hy] at hcy
        by_cases hxy : x = y
        · have HS' : Hid (∀ j, j < k + 1 → xs.getD j ⟨#[]⟩ = ys.getD j ⟨#[]⟩) := Lib.hid fun j hj => by
            rcases Nat.lt_or_ge j k with h | h
            · exact HS.out j h
            · obtain rfl : j = k := by omega
              rw [← hx, ← hy]; exact hxy
          have hbe : (x.toList == y.toList) = true := by rw [str_ne_iff]; simpa using hxy
          have hbe2 : (x.toList != y.toList) = false := by rw [bne, hbe]; rfl
          clear hx hy hxy
          go_wp2
          go_quiet (fail)
          go_wp2
          go_roundw
          case rel => exact ⟨k + 1, _, by omega, by go_num, Lib.hid (by rw [HW.out]; exact World.drewN_drewN _ _ _), HS'⟩
          case measure => simp [intOf]; omega
        · have HF := Lib.hid (show decide (xs = ys) = false by
            rw [decide_eq_false_iff_not]; exact list_ne xs ys _ k (by rw [← hx, ← hy]; exact hxy))
          have hbe : (x.toList == y.toList) = false := by rw [str_ne_iff]; simpa using hxy
          have hbe2 : (x.toList != y.toList) = true := by rw [bne, hbe]; rfl
          clear hx hy hxy
          go_wp2
          go_quiet (fail)
          go_wp2
          go_ret
          exact ⟨ret_bool HF.out.symm, _, by rw [HW.out]; exact World.drewN_drewN _ _ _⟩
      · have HF := Lib.hid (show decide (xs = ys) = true by
          rw [decide_eq_true_eq]; exact list_eq xs ys _ HL.out fun j hj => HS.out j (by omega))
        go_wp2
        go_ret
        exact ⟨ret_bool HF.out.symm, _, HW.out⟩
  · have hbn : ((xs.length : Int) != (ys.length : Int)) = true := by rw [bne_iff_ne]; omega
    have HF := Lib.hid (show decide (xs = ys) = false by rw [decide_eq_false_iff_not]; exact fun e => hl (by rw [e]))
    go_enter Try.func9, Try.ntmps9
    go_wp2
    go_ret
    exact ⟨ret_bool HF.out.symm, 0, rfl⟩
end Go.Proofs.Ytadlimfpcfdgcaa

