/- Versions as plain lists of bytes: parsing, comparing. No program here. -/
import Derived.Lib.IndexMore
import Derived.Lib.ItoaNum
import Derived.Lib.SplitLaws
import Derived.Test.YtcleebigfbbdbaaShelf
import Derived.Test.YtcleebigfbbdbaaFmA
import Derived.WalkKit
import Derived.Lib.Hide
import Derived.Test.YtcleebigfbbdbaaFmL
set_option linter.unusedVariables false
set_option linter.unusedSimpArgs false
namespace Go.Proofs.Ytcleebigfbbdbaa.Ver
open Go

abbrev BL := List UInt8
def digB (c : UInt8) : Bool := decide (48 ≤ c.toNat ∧ c.toNat ≤ 57)
def tagB (c : UInt8) : Bool := decide ((97 ≤ c.toNat ∧ c.toNat ≤ 122) ∨ (48 ≤ c.toNat ∧ c.toNat ≤ 57))
def numV (l : BL) : Nat := l.foldl (fun n c => 10 * n + (c.toNat - 48)) 0
def okNum (l : BL) : Bool := decide (1 ≤ l.length ∧ l.length ≤ 9) && l.all digB && !(decide (l.head? = some 48) && decide (1 < l.length))
def okTag (l : BL) : Bool := decide (l.length ≤ 16) && l.all tagB
def brk (c : UInt8) : BL → BL × BL × Bool
  | [] => ([], [], false)
  | x :: r => if x = c then ([], r, true) else (x :: (brk c r).1, (brk c r).2.1, (brk c r).2.2)
def parts (c : UInt8) : BL → List BL
  | [] => [[]]
  | x :: r => if x = c then [] :: parts c r else match parts c r with
    | [] => [[x]]
    | p :: ps => (x :: p) :: ps
def prsH (l : BL) : Option (List Nat) := if (parts 46 l).length ≤ 8 ∧ (parts 46 l).all okNum = true then some ((parts 46 l).map numV) else none
def prs (l : BL) : Option (List Nat × BL) :=
  if (brk 45 l).2.2 = true then (if (brk 45 l).2.1 ≠ [] ∧ okTag (brk 45 l).2.1 = true then (prsH (brk 45 l).1).map fun ns => (ns, (brk 45 l).2.1) else none)
  else (prsH l).map fun ns => (ns, [])

theorem brk_no (c : UInt8) : ∀ l : BL, (brk c l).2.2 = false → (brk c l).1 = l ∧ (brk c l).2.1 = [] ∧ c ∉ l
  | [], _ => ⟨rfl, rfl, by simp⟩
  | x :: r, h => by
    unfold brk at h ⊢
    by_cases hx : x = c
    · rw [if_pos hx] at h; cases h
    · rw [if_neg hx] at h ⊢
      obtain ⟨h1, h2, h3⟩ := brk_no c r h
      exact ⟨by simp [h1], h2, by simp [h3, Ne.symm hx]⟩
theorem brk_yes (c : UInt8) : ∀ l : BL, (brk c l).2.2 = true → l = (brk c l).1 ++ c :: (brk c l).2.1 ∧ c ∉ (brk c l).1
  | [], h => by cases h
  | x :: r, h => by
    unfold brk at h ⊢
    by_cases hx : x = c
    · rw [if_pos hx]; subst hx; simp
    · rw [if_neg hx] at h ⊢
      obtain ⟨h1, h2⟩ := brk_yes c r h
      exact ⟨by simpa using h1, by simp [h2, Ne.symm hx]⟩
theorem brk_app (c : UInt8) (a r : BL) (h : c ∉ a) : brk c (a ++ c :: r) = (a, r, true) := by
  induction a with
  | nil => simp [brk]
  | cons x a ih =>
    have hx : x ≠ c := fun e => h (by simp [e])
    rw [List.cons_append, brk, if_neg hx, ih (fun e => h (by simp [e]))]
theorem brk_not (c : UInt8) (l : BL) (h : c ∉ l) : brk c l = (l, [], false) := by
  induction l with
  | nil => rfl
  | cons x a ih =>
    have hx : x ≠ c := fun e => h (by simp [e])
    rw [brk, if_neg hx, ih (fun e => h (by simp [e]))]
theorem index_one (c : UInt8) : ∀ l : BL, Lib.index l [c] = if (brk c l).2.2 = true then ((brk c l).1.length : Int) else -1
  | [] => rfl
  | x :: r => by
    have ih := index_one c r
    unfold Lib.index brk
    by_cases hx : x = c
    · subst hx; simp
    · rw [if_neg (by simp [Ne.symm hx]), if_neg hx, ih]
      cases hb : (brk c r).2.2
      · simp [hb]
      · simp only [if_pos, hb]
        rw [if_neg (by simp; try omega)]
        simp
theorem cut_one (c : UInt8) (l : BL) : Lib.cut l [c] = brk c l := by
  unfold Lib.cut
  rw [index_one]
  cases hb : (brk c l).2.2
  · obtain ⟨h1, h2, _⟩ := brk_no c l hb
    have e : brk c l = ((brk c l).1, (brk c l).2.1, (brk c l).2.2) := rfl
    rw [if_neg (by simp), e, h1, h2, hb]
  · obtain ⟨h1, _⟩ := brk_yes c l hb
    have e : brk c l = ((brk c l).1, (brk c l).2.1, (brk c l).2.2) := rfl
    rw [if_pos rfl, if_pos (by omega)]
    generalize (brk c l).1 = a at *
    generalize (brk c l).2.1 = r at *
    rw [e, hb, h1]
    simp
theorem parts_ne (c : UInt8) (l : BL) : parts c l ≠ [] := by
  cases l with
  | nil => simp [parts]
  | cons x r => unfold parts; split; simp; split <;> simp
theorem parts_not (c : UInt8) (l : BL) (h : c ∉ l) : parts c l = [l] := by
  induction l with
  | nil => rfl
  | cons x a ih =>
    have hx : x ≠ c := fun e => h (by simp [e])
    rw [parts, if_neg hx, ih (fun e => h (by simp [e]))]
theorem parts_app (c : UInt8) (a r : BL) (h : c ∉ a) : parts c (a ++ c :: r) = a :: parts c r := by
  induction a with
  | nil => simp [parts]
  | cons x a ih =>
    have hx : x ≠ c := fun e => h (by simp [e])
    rw [List.cons_append, parts, if_neg hx, ih (fun e => h (by simp [e]))]
theorem parts_brk_yes (c : UInt8) (l : BL) (h : (brk c l).2.2 = true) : parts c l = (brk c l).1 :: parts c (brk c l).2.1 := by
  obtain ⟨h1, h2⟩ := brk_yes c l h
  have := parts_app c (brk c l).1 (brk c l).2.1 h2
  rwa [← h1] at this
theorem parts_brk_no (c : UInt8) (l : BL) (h : (brk c l).2.2 = false) : parts c l = [l] := parts_not c l (brk_no c l h).2.2

/-- A number's digits. -/
theorem numV_snoc (l : BL) (c : UInt8) : numV (l ++ [c]) = 10 * numV l + (c.toNat - 48) := by simp [numV]
theorem foldl_lt : ∀ (l : BL) (n k : Nat), l.all digB = true → n < 10 ^ k → l.foldl (fun n c => 10 * n + (c.toNat - 48)) n < 10 ^ (k + l.length)
  | [], n, k, _, h => h
  | c :: l, n, k, ha, h => by
    rw [List.all_cons, Bool.and_eq_true] at ha
    have h2 : c.toNat ≤ 57 := by have := ha.1; simp [digB] at this; omega
    have := foldl_lt l (10 * n + (c.toNat - 48)) (k + 1) ha.2 (by rw [Nat.pow_succ]; omega)
    rw [List.foldl_cons, List.length_cons, show k + (l.length + 1) = k + 1 + l.length by omega]
    exact this
theorem numV_lt (l : BL) (h : l.all digB = true) : numV l < 10 ^ l.length := by
  have := foldl_lt l 0 0 h (by decide)
  simpa [numV] using this
theorem okNum_lt (l : BL) (h : okNum l = true) : numV l < 1000000000 := by
  simp [okNum] at h
  have h1 := numV_lt l (by simp; exact h.1.2)
  have : 10 ^ l.length ≤ 10 ^ 9 := Nat.pow_le_pow_right (by decide) h.1.1.2
  omega
theorem numV_le (l : BL) (h : l.all digB = true) (h9 : l.length ≤ 9) : numV l < 1000000000 := by
  have h1 := numV_lt l h
  have : 10 ^ l.length ≤ 10 ^ 9 := Nat.pow_le_pow_right (by decide) h9
  omega
end Go.Proofs.Ytcleebigfbbdbaa.Ver

/- strings.Split at one byte, whatever the library's variables hold. -/
namespace Go.Proofs.Ytcleebigfbbdbaa
open Go.RowKit Go.BigFrame
open Ver (parts brk BL)

theorem indexByte_brk' (c : UInt8) : ∀ l : List UInt8, Lib.indexByte l c = if (brk c l).2.2 = true then ((brk c l).1.length : Int) else -1
  | [] => rfl
  | x :: r => by
    have ih := indexByte_brk' c r
    unfold Lib.indexByte brk
    by_cases hx : x = c
    · subst hx; simp
    · rw [if_neg (by simpa using hx), if_neg hx, ih]
      cases hb : (brk c r).2.2
      · simp [hb]
      · simp only [if_pos, hb]
        rw [if_neg (by simp; try omega)]
        simp

theorem splitK_parts (c : UInt8) : ∀ (k : Nat) (l : BL), l.count c = k → Lib.splitK [c] 0 k l = parts c l
  | 0, l, h => by
    rw [Ver.parts_not c l (List.count_eq_zero.1 h)]; rfl
  | k + 1, l, h => by
    have hb : (brk c l).2.2 = true := by
      cases hb : (brk c l).2.2
      · have := (Ver.brk_no c l hb).2.2
        rw [List.count_eq_zero.2 this] at h; omega
      · rfl
    obtain ⟨he, hn⟩ := Ver.brk_yes c l hb
    have hi := Ver.index_one c l
    rw [if_pos hb] at hi
    rw [Ver.parts_brk_yes c l hb]
    generalize (brk c l).1 = a at *
    generalize (brk c l).2.1 = r at *
    subst he
    have hc : r.count c = k := by
      rw [List.count_append, List.count_eq_zero.2 hn, List.count_cons_self] at h; omega
    unfold Lib.splitK
    rw [hi, if_neg (by simp), ← splitK_parts c k r hc]
    simp
def piecesB (c : UInt8) (s : ByteArray) : List ByteArray := Lib.splitB ⟨#[c]⟩ 0 (Lib.countB s ⟨#[c]⟩) s
theorem pieces_data (c : UInt8) (s : ByteArray) : (piecesB c s).map (·.data.toList) = parts c s.data.toList := by
  unfold piecesB
  rw [Lib.splitB_data]
  refine splitK_parts c _ _ ?_
  show _ = Lib.count s.data.toList [c]
  rw [Lib.count_one]
theorem pieces_len (c : UInt8) (s : ByteArray) : (piecesB c s).length = Lib.countB s ⟨#[c]⟩ + 1 := Lib.splitB_all ⟨#[c]⟩ (Nat.le_refl 1) 0 _ s rfl
theorem pieces_le (c : UInt8) (s : ByteArray) : (piecesB c s).length ≤ s.size + 1 := by
  rw [pieces_len]; have := Lib.countB_le ⟨#[c]⟩ (Nat.le_refl 1) s.size s (Nat.le_refl _); omega
theorem indexB_one (c : UInt8) (x : ByteArray) : Lib.indexB x ⟨#[c]⟩ = Lib.indexByte x.data.toList c := (Ver.index_one c _).trans (indexByte_brk' c _).symm
theorem countB_one (c : UInt8) (s : ByteArray) : Lib.countB s ⟨#[c]⟩ = Lib.countByte s.data.toList c := Lib.count_one c _
end Go.Proofs.Ytcleebigfbbdbaa

/- files: place. -/
namespace Go.Proofs.Ytcleebigfbbdbaa
open Go Go.RowKit Go.BigFrame
open Fil (Es Nd Sp)

/-- Where the first entry of a name stands. -/
def idxE (nm : ByteArray) : Es → Option Nat
  | .nil => none
  | .cons n' _ _ _ nx => if n'.toList == nm.toList then some 0 else (idxE nm nx).map (· + 1)
def placeN (nd : Nd) (nm : ByteArray) : Nat × Bool := if nd.k = 4 then (match idxE nm nd.es with | some i => (i, true) | none => (0, false)) else (0, false)
theorem es_addr {w : World} {B : Nat} {A : Option Addr} {c : Nat} {es : Es} (hes : EsAt w B (.slice A es.len c) es) (hp0 : 0 < es.len) : ∃ ab ao, A = some ⟨ab, ao, none⟩ ∧ ab < B ∧ CellsAt w B es ⟨ab, ao, none⟩ := by
  obtain ⟨A', c', e, _, _, _, h5⟩ := hes
  obtain ⟨a, ha, hlt, hcc⟩ := h5 hp0
  injection e with e1 e2 e3
  cases hE : es with
  | nil => rw [hE] at hp0; simp [Es.len] at hp0
  | cons nm k d s n' =>
    rw [hE] at hcc
    have := spot_none hcc.1
    obtain ⟨ab, ao, asp⟩ := a
    obtain rfl : asp = none := this
    exact ⟨ab, ao, e1.trans ha, hlt, hcc⟩
end Go.Proofs.Ytcleebigfbbdbaa

/- files: row. -/
namespace Go.Proofs.Ytcleebigfbbdbaa
open Go Go.RowKit Go.BigFrame
open Fil (Es Nd Sp)

/-- A row of texts of its own. -/
def TxAt (W : World) (b : Nat) (v : Value) (l : List ByteArray) : Prop :=
  (l = [] ∧ v = .slice none 0 0) ∨ ∃ g, b ≤ g ∧ v = .slice (some ⟨g, 0, none⟩) l.length l.length ∧ W.heap[g]? = some (.cells (l.map Value.string).toArray 9 (0, 0))
/-- The names of a path. -/
def rowN (s : ByteArray) : Option (List ByteArray) := if s.toList.isEmpty then some [] else if (piecesB 47 s).all Fil.nameB then some (piecesB 47 s) else none
def RowPost (w : World) (s : ByteArray) (e : Ending) (W : World) : Prop :=
  Below w.heap.size w W ∧ match rowN s with
  | none => e = .returned (.tuple #[.slice none 0 0, .bool false])
  | some l => ∃ v, e = .returned (.tuple #[v, .bool true]) ∧ TxAt W w.heap.size v l
end Go.Proofs.Ytcleebigfbbdbaa

/- files: At. -/
namespace Go.Proofs.Ytcleebigfbbdbaa
open Go Go.RowKit Go.BigFrame
open Fil (Es Nd Sp)

/-- The node of an entry. -/
def kidE : Es → Nat → Nd
  | .nil, _ => default
  | .cons _ k d s _, 0 => ⟨k, d, s⟩
  | .cons _ _ _ _ nx, i + 1 => kidE nx i
/-- The node behind a row of names. -/
def atN : Nd → List ByteArray → Option Nd
  | nd, [] => some nd
  | nd, nm :: l => if (placeN nd nm).2 then atN (kidE nd.es (placeN nd nm).1) l else none
def zNd : Nd := ⟨0, ⟨#[]⟩, .nil⟩
def atR (nd : Nd) (s : ByteArray) : Nat × Nd := match rowN s with
  | none => (2, zNd)
  | some l => match atN nd l with | none => (5, zNd) | some x => (0, x)
theorem idxE_lt {nm : ByteArray} : ∀ {es : Es} {i : Nat}, idxE nm es = some i → i < es.len
  | .nil, _, h => by cases h
  | .cons n' _ _ _ nx, i, h => by
    unfold idxE at h
    split at h
    · cases h; simp [Es.len]
    · cases hx : idxE nm nx with
      | none => rw [hx] at h; cases h
      | some j => rw [hx] at h; cases h; have := idxE_lt hx; simp [Es.len]; omega
theorem placeN_lt {nd : Nd} {nm : ByteArray} (h : (placeN nd nm).2 = true) : (placeN nd nm).1 < nd.es.len := by
  unfold placeN at h ⊢
  split at h
  · cases hx : idxE nm nd.es with
    | none => rw [hx] at h; cases h
    | some j => rename_i h4; rw [if_pos h4]; exact idxE_lt hx
  · cases h
/-- An entry's node in memory. -/
theorem kid_at {w : World} {B : Nat} : ∀ {es : Es} {ab ao i : Nat}, CellsAt w B es ⟨ab, ao, none⟩ → i < es.len → ab < B →
    w.cell? ⟨ab, ao + i * 4 + 1, none⟩ = some (.int .u8 ((kidE es i).k : Int)) ∧ w.cell? ⟨ab, ao + i * 4 + 2, none⟩ = some (.string (kidE es i).d) ∧ (kidE es i).d.size ≤ maxLen ∧ (kidE es i).k < 256 ∧
      ∃ A c, w.cell? ⟨ab, ao + i * 4 + 3, none⟩ = some (.slice A (kidE es i).es.len c) ∧ EsAt w B (.slice A (kidE es i).es.len c) (kidE es i).es
  | .nil, _, _, _, _, h, _ => by simp [Es.len] at h
  | .cons nm k d s nx, ab, ao, 0, hc, _, hlt => by
    obtain ⟨h0, h1, h2, h3, h4, h5, ⟨A, cap, h6, h7, h8, h9, h10⟩, h11⟩ := hc
    rw [add_none] at h1 h2 h6
    refine ⟨by simpa [kidE] using h1, by simpa [kidE] using h2, h4, h5, A, cap, by simpa [kidE] using h6, A, cap, rfl, h7, h8, h9, h10⟩
  | .cons nm k d s nx, ab, ao, i + 1, hc, h, hlt => by
    obtain ⟨h0, h1, h2, h3, h4, h5, h6, h11⟩ := hc
    rw [add_none] at h11
    have ih := kid_at (i := i) h11 (by simp [Es.len] at h; omega) hlt
    have e : ∀ j, ao + 4 + i * 4 + j = ao + (i + 1) * 4 + j := fun j => by omega
    rw [e, e, e] at ih
    exact ih
/-- The cells of a node. -/
def ndCells (k : Nat) (d : ByteArray) (v : Value) : Obj := .cells #[.int .u8 (k : Int), .string d, v] 24 (0, 0)
theorem nd_box {W : World} {g k : Nat} {d : ByteArray} {v : Value} (h : W.heap[g]? = some (ndCells k d v)) : W.cell? ⟨g, 0, none⟩ = some (.int .u8 (k : Int)) ∧ W.cell? ⟨g, 1, none⟩ = some (.string d) ∧ W.cell? ⟨g, 2, none⟩ = some v ∧ W.frozen? ⟨g, 0, none⟩ = false ∧ W.frozen? ⟨g, 1, none⟩ = false ∧ W.frozen? ⟨g, 2, none⟩ = false := by
  unfold ndCells at h
  refine ⟨?_, ?_, ?_, frozen_of_row _ _ _ _ _ h, frozen_of_row _ _ _ _ _ h, frozen_of_row _ _ _ _ _ h⟩ <;> (rw [cell_of_row _ _ _ _ _ _ h]; rfl)
/-- Two results: a node in a box, and a code. -/
theorem node_results {fn : Func} {p u : Tmp} (hfn : fn.results = #[.cell p 24, .tmp u]) {W : World} {g : Nat} {cs : Array Value} {t : Array Value} (hcs : cs.size = 3) (h : W.heap[g]? = some (.cells cs 24 (0, 0))) (hp : t.getD p undef = .pointer (some ⟨g, 0, none⟩)) :
    (results fn t).run Try.prog W = .ok (.tuple #[.agg cs, t.getD u undef]) W := by
  have hi : (Try.prog.info? 24).map (·.size) = some cs.size := by rw [hcs]; kernel_rfl
  exact results_cell_tmp hfn t W g _ cs (0, 0) _ _ hp rfl h Try.underlying24 (by rfl) hi
theorem tx_keep {W W' : World} {b : Nat} {v : Value} {l : List ByteArray} (h : TxAt W b v l) (hk : ∀ g, b ≤ g → g < W.heap.size → W'.heap[g]? = W.heap[g]?) : TxAt W' b v l := by
  rcases h with h | ⟨g, h1, h2, h3⟩
  · exact .inl h
  · exact .inr ⟨g, h1, h2, (hk g h1 (Array.getElem?_eq_some_iff.1 h3).1).trans h3⟩
theorem tx_cell {W : World} {b : Nat} {v : Value} {l : List ByteArray} (h : TxAt W b v l) {i : Nat} {x : ByteArray} (hx : l[i]? = some x) : ∃ g, b ≤ g ∧ v = .slice (some ⟨g, 0, none⟩) l.length l.length ∧ W.cell? ⟨g, i, none⟩ = some (.string x) := by
  rcases h with ⟨rfl, _⟩ | ⟨g, h1, h2, h3⟩
  · simp at hx
  · refine ⟨g, h1, h2, ?_⟩
    rw [cell_of_row _ _ _ _ _ _ h3]
    simp [hx]
theorem rowN_len {s : ByteArray} {l : List ByteArray} (h : rowN s = some l) : l.length ≤ s.size + 1 := by
  unfold rowN at h
  split at h
  · cases h; simp
  · split at h
    · cases h; exact pieces_le 47 s
    · cases h
/-- Between two rounds of At. -/
structure AtInv (w : World) (B : Nat) (nd : Nd) (l : List ByteArray) (gr : Option Addr) (i : Nat) (cur : Nd) (A' : Option Addr) (c' : Nat) (W : World) : Prop where
  box : W.heap[w.heap.size]? = some (.cells #[.int .u8 (cur.k : Int), .string cur.d, .slice A' cur.es.len c'] 24 (0, 0))
  res : W.heap[w.heap.size + 1]? = some (.cells #[.int .u8 0, .string ⟨#[]⟩, .slice none 0 0] 24 (0, 0))
  es : EsAt W B (.slice A' cur.es.len c') cur.es
  dz : cur.d.size ≤ maxLen
  kz : cur.k < 256
  row : TxAt W (w.heap.size + 2) (.slice gr l.length l.length) l
  below : Below w.heap.size w W
  at' : atN nd l = atN cur (l.drop i)
theorem AtInv.keep {w : World} {B : Nat} {nd : Nd} {l : List ByteArray} {gr : Option Addr} {i : Nat} {cur : Nd} {A' : Option Addr} {c' : Nat} {W W' : World} (h : AtInv w B nd l gr i cur A' c' W) (hB : B ≤ w.heap.size) (hb : Below W.heap.size W W') : AtInv w B nd l gr i cur A' c' W' := by
  have h1 := (Array.getElem?_eq_some_iff.1 h.res).1
  exact ⟨(hb.block _ (by omega)).trans h.box, (hb.block _ h1).trans h.res, h.es.keep (hb.mono (by omega)), h.dz, h.kz, tx_keep h.row (fun g _ hg => hb.block g hg), h.below.trans (hb.mono (by omega)), h.at'⟩
def AtPost (w : World) (B : Nat) (nd : Nd) (s : ByteArray) (e : Ending) (W : World) : Prop :=
  Below w.heap.size w W ∧ ∃ v, e = .returned (.tuple #[v, .int .i64 ((atR nd s).1 : Int)]) ∧ NdV W B v (atR nd s).2
end Go.Proofs.Ytcleebigfbbdbaa
