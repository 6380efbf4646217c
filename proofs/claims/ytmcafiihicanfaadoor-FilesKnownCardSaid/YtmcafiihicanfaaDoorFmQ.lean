/- files: the examples' facts. -/
import Derived.Test.YtmcafiihicanfaaDoorFilQd
import Derived.Test.YtmcafiihicanfaaDoorFmU
import Derived.Test.YtmcafiihicanfaaDoorFilZ
import Derived.Test.YtmcafiihicanfaaDoorProg
import Derived.Test.YtmcafiihicanfaaDoorBase
import Derived.LoopTactic
set_option linter.unusedVariables false
set_option linter.unusedSimpArgs false
namespace Go.Proofs.YtmcafiihicanfaaDoor
open Go Go.RowKit Go.BigFrame
open Fil (Es Nd Sp)

def dN : Es := .cons ⟨#[120]⟩ 3 ⟨#[46, 46, 47, 97]⟩ .nil .nil
def nN : Nd := ⟨4, ⟨#[]⟩, .cons ⟨#[97]⟩ 1 ⟨#[104, 105]⟩ .nil (.cons ⟨#[100]⟩ 4 ⟨#[]⟩ dN .nil)⟩
def mN : Nd := ⟨4, ⟨#[]⟩, .cons ⟨#[97]⟩ 1 ⟨#[104, 105]⟩ .nil (.cons ⟨#[100]⟩ 4 ⟨#[]⟩ (.cons ⟨#[120]⟩ 3 ⟨#[46, 46, 47, 97]⟩ .nil (.cons ⟨#[121]⟩ 1 ⟨#[]⟩ .nil .nil)) .nil)⟩
theorem ex_at1 : atR nN ⟨#[100, 47, 120]⟩ = (0, ⟨3, ⟨#[46, 46, 47, 97]⟩, .nil⟩) := by kernel_rfl
theorem ex_at2 : atR nN ⟨#[100, 47, 121]⟩ = (5, zNd) := by kernel_rfl
theorem ex_at3 : atR nN ⟨#[47, 100]⟩ = (2, zNd) := by kernel_rfl
theorem ex_put : putR nN ⟨#[100, 47, 121]⟩ ⟨1, ⟨#[]⟩, .nil⟩ = (0, mN) := by kernel_rfl
theorem ex_count : nN.count = 4 := by kernel_rfl
theorem ex_depth : nN.depth = 2 := by kernel_rfl
theorem ex_size : nN.size = 6 := by kernel_rfl
theorem ex_right : nN.right = true := by kernel_rfl
theorem ex_paths : pathsR nN = [⟨#[]⟩, ⟨#[97]⟩, ⟨#[100]⟩, ⟨#[100, 47, 120]⟩] := by kernel_rfl
theorem ex_paths2 : pathsR mN = [⟨#[]⟩, ⟨#[97]⟩, ⟨#[100]⟩, ⟨#[100, 47, 120]⟩, ⟨#[100, 47, 121]⟩] := by kernel_rfl
theorem ex_name : Fil.nameB ⟨#[97]⟩ = true := by kernel_rfl
end Go.Proofs.YtmcafiihicanfaaDoor

/- files: the kit's File and Pick. -/
namespace Go.Proofs.YtmcafiihicanfaaDoor
open Go Go.RowKit Go.BigFrame
open Fil (Es Nd Sp)

set_option maxRecDepth 1000000 in
theorem file_any (s : ByteArray) (hs : s.size ≤ maxLen) (w : World) :
    Calls Tryd.prog 35 #[.string s] w fun e W => Below w.heap.size w W ∧ ∃ v, e = .returned v ∧ NdV W W.heap.size v ⟨1, s, .nil⟩ := by
  go_enter Tryd.func35, Tryd.ntmps35
  have hbw := (Below.refl w.heap.size w).alloc (Nat.le_refl _) (.cells #[.int .u8 1, .string s, .slice none 0 0] 26)
  have hnb := heap_alloc_new w (.cells #[.int .u8 1, .string s, .slice none 0 0] 26)
  have hi : (Tryd.prog.info? 26).map (·.size) = some 3 := by kernel_rfl
  have HH := Lib.hid (And.intro hbw hnb)
  clear hbw hnb
  go_wp2
  refine bodyPost_ret (results_cell_row rfl _ _ _ _ _ _ _ rfl HH.out.2 Tryd.underlying26 (by rfl) hi) rfl ⟨HH.out.1, _, rfl, _, rfl, EsAt.nil _ _, hs, (by decide : (1 : Nat) < 256)⟩
set_option maxRecDepth 1000000 in
theorem pick_any (i : Int) (n : Nat) (hi : -9223372036854775808 ≤ i) (hi2 : i ≤ 9223372036854775807) (hn : n ≤ 1000000) (w : World) :
    Calls Tryd.prog 31 #[.int .i64 i, .int .i64 (n : Int)] w fun e W => W = w ∧ ∃ k : Nat, e = .returned (.int .i64 (k : Int)) ∧ (0 < n → k < n) := by
  go_enter Tryd.func31, Tryd.ntmps31
  rcases Nat.eq_zero_or_pos n with rfl | hp
  · go_wp2
    go_ret
    exact ⟨rfl, 0, rfl, fun h => by omega⟩
  · have h1 : decide ((n : Int) ≤ 0) = false := decide_eq_false (by omega)
    have h2 : ((n : Int) == 0) = false := beq_eq_false_iff_ne.2 (by omega)
    have t1 := Int.lt_tmod_of_pos i (show (0 : Int) < (n : Int) by omega)
    have t2 := Int.tmod_lt_of_pos i (show (0 : Int) < (n : Int) by omega)
    have hw : IntKind.i64.wrap (i.tmod (n : Int) + (n : Int)) = i.tmod (n : Int) + (n : Int) := IntWalk.i64_in _ (by omega)
    have t3 := Int.tmod_nonneg (n : Int) (show 0 ≤ i.tmod (n : Int) + (n : Int) by omega)
    have t4 := Int.tmod_lt_of_pos (i.tmod (n : Int) + (n : Int)) (show (0 : Int) < (n : Int) by omega)
    have HT := Lib.hid (And.intro t3 t4)
    clear t1 t2 t3 t4
    go_wp2
    go_ret
    obtain ⟨t3, t4⟩ := HT.out
    refine ⟨rfl, ((i.tmod (n : Int) + (n : Int)).tmod (n : Int)).toNat, ?_, fun _ => by omega⟩
    rw [Int.toNat_of_nonneg t3]
    rfl
end Go.Proofs.YtmcafiihicanfaaDoor

/- files: the law's has. -/
namespace Go.Proofs.YtmcafiihicanfaaDoor
open Go Go.RowKit Go.BigFrame
open Fil (Es Nd Sp)

def hasL (l : List ByteArray) (s : ByteArray) : Bool := l.any (fun x => x.toList == s.toList)
set_option maxRecDepth 1000000 in
set_option maxRecDepth 100000 in
set_option maxHeartbeats 4000000 in
theorem has_any (gr : Option Addr) (cap b : Nat) (l : List ByteArray) (s : ByteArray) (w : World) (h : TxC w b (.slice gr l.length cap) l) (hl : l.length ≤ 1000000) :
    Calls Tryd.prog 32 #[.slice gr l.length cap, .string s] w fun e W => W = w ∧ e = .returned (.bool (hasL l s)) := by
  have HT := Lib.hid h
  clear h
  go_enter Tryd.func32, Tryd.ntmps32
  go_wp2
  go_loopg [5] l.length (fun g u5 wx => ∃ i : Nat, u5 = .int .i64 (i : Int) ∧ i + g = l.length ∧ wx = w ∧ Hid (∀ j y, j < i → l[j]? = some y → (y.toList == s.toList) = false))
  case atStart => exact ⟨0, rfl, by omega, rfl, fun j y hj => by omega⟩
  case round =>
    obtain ⟨i, rfl, hig, rfl, HN⟩ := hrel
    cases gk with
    | zero =>
      obtain rfl : i = l.length := by omega
      have HF := Lib.hid (show hasL l s = false by
        unfold hasL
        rw [List.any_eq_false]
        intro y hy
        obtain ⟨j, hj, rfl⟩ := List.getElem_of_mem hy
        have := HN.out j _ hj (List.getElem?_eq_getElem hj)
        rw [this]
        exact Bool.false_ne_true)
      go_wp2
      go_ret
      exact ⟨rfl, by rw [HF.out]; rfl⟩
    | succ g =>
      have hil : i < l.length := by omega
      obtain ⟨x, hx⟩ : ∃ x, l[i]? = some x := ⟨_, List.getElem?_eq_getElem hil⟩
      obtain ⟨gq, cap2, hgq, hge, hcell⟩ := txc_cell HT.out hx
      injection hge with hge1 _ hge2
      subst hge1
      subst hge2
      have HX := Lib.hid hx
      have hw1 : IntKind.i64.wrap ((i : Int) + 1) = (i : Int) + 1 := IntWalk.i64_in _ (by omega)
      clear hx
      rcases Bool.eq_false_or_eq_true (x.toList == s.toList) with hq | hq
      · have HF := Lib.hid (show hasL l s = true by unfold hasL; exact List.any_eq_true.2 ⟨x, List.mem_of_getElem? HX.out, hq⟩)
        go_wp2
        go_ret
        exact ⟨rfl, by rw [HF.out]; rfl⟩
      · have HQ := Lib.hid hq
        go_wp2
        go_roundg g
        case measure => omega
        case rel =>
          refine ⟨i + 1, by simp, by omega, rfl, fun j y hj hy => ?_⟩
          rcases Nat.lt_or_ge j i with hji | hji
          · exact HN.out j y hji hy
          · obtain rfl : j = i := by omega
            rw [HX.out] at hy
            cases hy
            exact HQ.out
end Go.Proofs.YtmcafiihicanfaaDoor

/- files: rows of texts, their sameness (out of XReads, in a namespace of its own). -/
namespace Go.Proofs.YtmcafiihicanfaaDoor
namespace RdT
open Go.RowKit Go.BigFrame

/-- A slice of one-cell values, that lies below block B. -/
def Reads (w : World) (B : Nat) (v : Value) (xs : List Value) : Prop :=
  ∃ A cap, v = .slice A xs.length cap ∧ xs.length ≤ cap ∧ cap ≤ maxLen ∧ (A = none → cap = 0) ∧ (0 < xs.length → ∃ ad, A = some ad ∧ ad.block < B ∧ ∀ j u, xs[j]? = some u → w.cell? (ad.add j) = some u)
theorem Reads.below {w w' : World} {B : Nat} {v : Value} {xs : List Value} (h : Reads w B v xs) (hb : Below B w w') : Reads w' B v xs := by
  obtain ⟨A, cap, e, h1, h2, h3, h4⟩ := h
  exact ⟨A, cap, e, h1, h2, h3, fun hn => by
    obtain ⟨ad, e2, hl, hc⟩ := h4 hn
    exact ⟨ad, e2, hl, fun j u hu => (hb.cell (by rw [add_block]; exact hl)).trans (hc j u hu)⟩⟩
theorem Reads.more {w : World} {B B' : Nat} {v : Value} {xs : List Value} (h : Reads w B v xs) (hb : B ≤ B') : Reads w B' v xs := by
  obtain ⟨A, cap, e, h1, h2, h3, h4⟩ := h
  exact ⟨A, cap, e, h1, h2, h3, fun hn => by
    obtain ⟨ad, e2, hl, hc⟩ := h4 hn
    exact ⟨ad, e2, by omega, hc⟩⟩
theorem Reads.own {w : World} {base n : Nat} {e : TypeId} {v : Value} {xs : List Value} (h : w.ownsRow base e 1 v n xs) : Reads w w.heap.size v xs := by
  obtain ⟨hl, ⟨rfl, rfl⟩ | ⟨g, cap, cur, rfl, hg, hgg, h1, h2, h3, h4⟩⟩ := h
  · have : xs = [] := List.eq_nil_of_length_eq_zero (by omega)
    subst this
    exact ⟨none, 0, rfl, Nat.le_refl _, Nat.zero_le _, fun _ => rfl, fun h => absurd h (by simp)⟩
  · rw [Nat.mul_one] at hl h4
    refine ⟨_, cap, by rw [hl], by omega, h2, (fun h => by cases h), fun hn => ⟨_, rfl, block_lt hgg, fun j u hu => ?_⟩⟩
    have hj : j < n := by have := (List.getElem?_eq_some_iff.1 hu).1; omega
    have hx : cur[j]? = some u := by
      rw [← h4, List.getElem?_take, if_pos hj] at hu
      simpa using hu
    have e : (⟨g, 0, none⟩ : Addr).add j = ⟨g, j, none⟩ := by unfold Addr.add; by_cases h0 : j = 0 <;> simp [h0]
    rw [e, cell_of_row _ _ _ _ _ _ hgg, hx]
theorem Reads.nil (w : World) (B : Nat) : Reads w B (.slice none 0 0) [] := ⟨none, 0, rfl, Nat.le_refl _, Nat.zero_le _, fun _ => rfl, fun h => absurd h (by simp)⟩
def ints (xs : List Int) : List Value := xs.map (Value.int .i64)
def byts (xs : List Int) : List Value := xs.map (Value.int .u8)
theorem ints_get (xs : List Int) (k : Nat) (h : k < xs.length) : (ints xs)[k]? = some (.int .i64 (xs.getD k 0)) := by simp [ints, h]
theorem byts_get (xs : List Int) (k : Nat) (h : k < xs.length) : (byts xs)[k]? = some (.int .u8 (xs.getD k 0)) := by simp [byts, h]
theorem ints_len (xs : List Int) : (ints xs).length = xs.length := by simp [ints]
theorem byts_len (xs : List Int) : (byts xs).length = xs.length := by simp [byts]
theorem cell_drew {w wr : World} {n : Nat} (h : wr = w.drewN n) (p : Addr) : wr.cell? p = w.cell? p := by
  subst h
  induction n with
  | zero => rfl
  | succ n ih => exact ih
def strs (ss : List ByteArray) : List Value := ss.map Value.string
theorem strs_len (ss : List ByteArray) : (strs ss).length = ss.length := by simp [strs]
theorem strs_get (ss : List ByteArray) (k : Nat) (h : k < ss.length) : (strs ss)[k]? = some (.string (ss.getD k ⟨#[]⟩)) := by simp [strs, h]
theorem list_ne {α : Type} (xs ys : List α) (d : α) (k : Nat) (h : xs.getD k d ≠ ys.getD k d) : xs ≠ ys := fun e => h (by rw [e])
theorem list_eq {α : Type} (xs ys : List α) (d : α) (hl : xs.length = ys.length) (h : ∀ j, j < xs.length → xs.getD j d = ys.getD j d) : xs = ys := by
  apply List.ext_getElem hl
  intro j h1 h2
  have := h j h1
  simpa [List.getD, h1, h2] using this
theorem str_ne_iff (x y : ByteArray) : (x.toList == y.toList) = decide (x = y) := by
  rw [Lib.toList_data, Lib.toList_data, Bool.eq_iff_iff]
  simp only [beq_iff_eq, decide_eq_true_eq]
  exact ⟨str_ext, fun e => by rw [e]⟩
/-- A new row of texts. -/
theorem reads_new (w : World) (cs : Array Value) (T : TypeId) (xs : List Value) (h : cs.toList = xs) (hn : xs.length ≤ 1000) : Reads (w.alloc (.cells cs T)) (w.alloc (.cells cs T)).heap.size (.slice (some ⟨w.heap.size, 0, none⟩) xs.length xs.length) xs :=
  ⟨_, _, rfl, Nat.le_refl _, by unfold maxLen; omega, (fun h => by cases h), fun _ => ⟨_, rfl, by simp, fun j u hu => row_cells (heap_alloc_new w (.cells cs T)) j u (by rw [← hu, ← h]; simp)⟩⟩
set_option maxRecDepth 100000 in
set_option maxHeartbeats 800000 in
theorem sameTexts_any (a b : Value) (xs ys : List ByteArray) (B : Nat) (w : World) (ha : Reads w B a (strs xs)) (hb : Reads w B b (strs ys)) :
    Calls Tryd.prog 29 #[a, b] w fun e w' => e = .returned (.bool (decide (xs = ys))) ∧ ∃ nq, w' = w.drewN nq := by
  obtain ⟨A, ca, rfl, hla, hma, hza, hra⟩ := ha
  obtain ⟨A', cb, rfl, hlb, hmb, hzb, hrb⟩ := hb
  simp only [strs_len] at *
  have HRA := Lib.hid hra
  have HRB := Lib.hid hrb
  unfold maxLen at *
  clear hra hrb hza hzb
  by_cases hl : xs.length = ys.length
  · have HL := Lib.hid hl
    have hbn : ((xs.length : Int) != (ys.length : Int)) = false := by rw [hl]; simp
    have hl1 : xs.length ≤ ys.length := by omega
    clear hl
    go_enter Tryd.func29, Tryd.ntmps29
    go_wp2
    go_loopw [5] (fun i wr => ∃ (k nq : Nat), k ≤ xs.length ∧ i = .int .i64 k ∧ Hid (wr = w.drewN nq) ∧ Hid (∀ j, j < k → xs.getD j ⟨#[]⟩ = ys.getD j ⟨#[]⟩)) (fun i _ => xs.length - (intOf i).toNat)
    case atStart => exact ⟨0, 0, by omega, rfl, Lib.hid rfl, Lib.hid fun j h => absurd h (Nat.not_lt_zero j)⟩
    case round =>
      obtain ⟨k, nq, hk, rfl, HW, HS⟩ := hrel
      by_cases hlt : k < xs.length
      · obtain ⟨ad, rfl, hbl, hc⟩ := HRA.out (by omega)
        obtain ⟨ad', rfl, hbl', hc'⟩ := HRB.out (by omega)
        have hcx := (cell_drew HW.out _).trans (hc k _ (strs_get xs k (by omega)))
        have hcy := (cell_drew HW.out _).trans (hc' k _ (strs_get ys k (by omega)))
        clear hc hc' hbl hbl'
        have hi1 : (k : Int) < (xs.length : Int) := by omega
        have hi2 : (k : Int) < (ys.length : Int) := by omega
        have hi0 : (0 : Int) ≤ (k : Int) := by omega
        obtain ⟨x, hx⟩ : ∃ x, x = xs.getD k ⟨#[]⟩ := ⟨_, rfl⟩
        obtain ⟨y, hy⟩ : ∃ y, y = ys.getD k ⟨#[]⟩ := ⟨_, rfl⟩
        rw [← hx] at hcx
        rw [← hy] at hcy
        by_cases hxy : x = y
        · have HS' : Hid (∀ j, j < k + 1 → xs.getD j ⟨#[]⟩ = ys.getD j ⟨#[]⟩) := Lib.hid fun j hj => by
            rcases Nat.lt_or_ge j k with h | h
            · exact HS.out j h
            · obtain rfl : j = k := by omega
              rw [← hx, ← hy]; exact hxy
          have hbe : (x.toList == y.toList) = true := by rw [str_ne_iff]; simpa using hxy
          have hbe2 : (x.toList != y.toList) = false := by rw [bne, hbe]; rfl
          clear hx hy hxy
          go_wp2
          go_quiet (fail)
          go_wp2
          go_roundw
          case rel => exact ⟨k + 1, _, by omega, by go_num, Lib.hid (by rw [HW.out]; exact World.drewN_drewN _ _ _), HS'⟩
          case measure => simp [intOf]; omega
        · have HF := Lib.hid (show decide (xs = ys) = false by
            rw [decide_eq_false_iff_not]; exact list_ne xs ys _ k (by rw [← hx, ← hy]; exact hxy))
          have hbe : (x.toList == y.toList) = false := by rw [str_ne_iff]; simpa using hxy
          have hbe2 : (x.toList != y.toList) = true := by rw [bne, hbe]; rfl
          clear hx hy hxy
          go_wp2
          go_quiet (fail)
          go_wp2
          go_ret
          exact ⟨ret_bool HF.out.symm, _, by rw [HW.out]; exact World.drewN_drewN _ _ _⟩
      · have HF := Lib.hid (show decide (xs = ys) = true by
          rw [decide_eq_true_eq]; exact list_eq xs ys _ HL.out fun j hj => HS.out j (by omega))
        go_wp2
        go_ret
        exact ⟨ret_bool HF.out.symm, _, HW.out⟩
  · have hbn : ((xs.length : Int) != (ys.length : Int)) = true := by rw [bne_iff_ne]; omega
    have HF := Lib.hid (show decide (xs = ys) = false by rw [decide_eq_false_iff_not]; exact fun e => hl (by rw [e]))
    go_enter Tryd.func29, Tryd.ntmps29
    go_wp2
    go_ret
    exact ⟨ret_bool HF.out.symm, 0, rfl⟩
end RdT
end Go.Proofs.YtmcafiihicanfaaDoor

