/- files: entries as a row of cells; parts of a row, joined. -/
import Derived.Test.YtmcafiihicanfaaDoorFmS
set_option linter.unusedVariables false
set_option linter.unusedSimpArgs false
namespace Go.Proofs.YtmcafiihicanfaaDoor
open Go Go.RowKit Go.BigFrame
open Fil (Es Nd Sp)

/-- The cells of a row of entries. -/
def EntL (w : World) (B : Nat) : Es → List Value → Prop
  | .nil, xs => xs = []
  | .cons nm k d s nx, xs => ∃ sv xs', xs = .string nm :: .int .u8 (k : Int) :: .string d :: sv :: xs' ∧ nm.size ≤ maxLen ∧ d.size ≤ maxLen ∧ k < 256 ∧ EsAt w B sv s ∧ EntL w B nx xs'
theorem EntL.len {w : World} {B : Nat} : ∀ {es : Es} {xs : List Value}, EntL w B es xs → xs.length = 4 * es.len
  | .nil, _, h => by rw [show _ = [] from h]; rfl
  | .cons nm k d s nx, _, h => by
    obtain ⟨sv, xs', rfl, _, _, _, _, h6⟩ := h
    have := h6.len
    simp [Es.len]
    omega
theorem EntL.one {w : World} {B : Nat} : ∀ {es : Es} {xs : List Value}, EntL w B es xs → ∀ u ∈ xs, u.oneCell' = true
  | .nil, _, h, u, hu => by rw [show _ = [] from h] at hu; cases hu
  | .cons nm k d s nx, _, h, u, hu => by
    obtain ⟨sv, xs', rfl, _, _, _, he, h6⟩ := h
    simp only [List.mem_cons] at hu
    rcases hu with rfl | rfl | rfl | rfl | hu
    · rfl
    · rfl
    · rfl
    · obtain ⟨A, c, rfl, _⟩ := he.form; rfl
    · exact h6.one u hu
theorem EntL.keep {w w' : World} {B : Nat} (hb : Below B w w') : ∀ {es : Es} {xs : List Value}, EntL w B es xs → EntL w' B es xs
  | .nil, _, h => h
  | .cons nm k d s nx, _, h => by
    obtain ⟨sv, xs', h1, h2, h3, h4, he, h6⟩ := h
    exact ⟨sv, xs', h1, h2, h3, h4, he.keep hb, EntL.keep hb h6⟩
theorem EntL.more {w : World} {B B' : Nat} (hB : B ≤ B') : ∀ {es : Es} {xs : List Value}, EntL w B es xs → EntL w B' es xs
  | .nil, _, h => h
  | .cons nm k d s nx, _, h => by
    obtain ⟨sv, xs', h1, h2, h3, h4, he, h6⟩ := h
    exact ⟨sv, xs', h1, h2, h3, h4, he.more hB, EntL.more hB h6⟩
/-- A row in memory, as cells. -/
theorem cells_ents {w : World} {B : Nat} : ∀ {es : Es} {ab ao : Nat}, CellsAt w B es ⟨ab, ao, none⟩ → ∃ xs, EntL w B es xs ∧ ∀ j u, xs[j]? = some u → w.cell? ⟨ab, ao + j, none⟩ = some u
  | .nil, _, _, _ => ⟨[], rfl, fun j u h => by simp at h⟩
  | .cons nm k d s nx, ab, ao, hc => by
    obtain ⟨h0, h1, h2, h3, h4, h5, ⟨A, cap, h6, h7, h8, h9, h10⟩, h11⟩ := hc
    rw [add_none] at h1 h2 h6 h11
    obtain ⟨xs, hx1, hx2⟩ := cells_ents h11
    refine ⟨_, ⟨.slice A s.len cap, xs, rfl, h3, h4, h5, ⟨A, cap, rfl, h7, h8, h9, h10⟩, hx1⟩, fun j u hu => ?_⟩
    match j, hu with
    | 0, hu => simp at hu; subst hu; exact h0
    | 1, hu => simp at hu; subst hu; exact h1
    | 2, hu => simp at hu; subst hu; exact h2
    | 3, hu => simp at hu; subst hu; exact h6
    | j + 4, hu =>
      have := hx2 j u (by simpa using hu)
      rwa [show ao + 4 + j = ao + (j + 4) by omega] at this
theorem ents_cells {w : World} {B : Nat} : ∀ {es : Es} {xs : List Value} {ab ao : Nat}, EntL w B es xs → (∀ j u, xs[j]? = some u → w.cell? ⟨ab, ao + j, none⟩ = some u) → CellsAt w B es ⟨ab, ao, none⟩
  | .nil, _, _, _, _, _ => trivial
  | .cons nm k d s nx, _, ab, ao, h, hc => by
    obtain ⟨sv, xs', rfl, h2, h3, h4, ⟨A, cap, rfl, h7, h8, h9, h10⟩, h6⟩ := h
    refine ⟨hc 0 _ rfl, by rw [add_none]; exact hc 1 _ rfl, by rw [add_none]; exact hc 2 _ rfl, h2, h3, h4, ⟨A, cap, by rw [add_none]; exact hc 3 _ rfl, h7, h8, h9, h10⟩, ?_⟩
    rw [add_none]
    refine ents_cells h6 fun j u hu => ?_
    have := hc (j + 4) u (by simpa using hu)
    rwa [show ao + (j + 4) = ao + 4 + j by omega] at this
/-- Rows joined; a row's beginning; what is behind it. -/
def appE : Es → Es → Es
  | .nil, b => b
  | .cons nm k d s nx, b => .cons nm k d s (appE nx b)
def takeE : Nat → Es → Es
  | 0, _ => .nil
  | _ + 1, .nil => .nil
  | i + 1, .cons nm k d s nx => .cons nm k d s (takeE i nx)
def dropE : Nat → Es → Es
  | 0, e => e
  | _ + 1, .nil => .nil
  | i + 1, .cons _ _ _ _ nx => dropE i nx
theorem EntL.app {w : World} {B : Nat} : ∀ {a b : Es} {xs ys : List Value}, EntL w B a xs → EntL w B b ys → EntL w B (appE a b) (xs ++ ys)
  | .nil, _, _, _, h, k => by rw [show _ = [] from h]; exact k
  | .cons nm k' d s nx, _, _, _, h, k => by
    obtain ⟨sv, xs', rfl, h2, h3, h4, he, h6⟩ := h
    exact ⟨sv, xs' ++ _, rfl, h2, h3, h4, he, EntL.app h6 k⟩
theorem EntL.take {w : World} {B : Nat} : ∀ {es : Es} {xs : List Value} (i : Nat), EntL w B es xs → EntL w B (takeE i es) (xs.take (4 * i))
  | _, _, 0, _ => by simp [takeE, EntL]
  | .nil, _, i + 1, h => by rw [show _ = [] from h]; simp [takeE, EntL]
  | .cons nm k d s nx, _, i + 1, h => by
    obtain ⟨sv, xs', rfl, h2, h3, h4, he, h6⟩ := h
    exact ⟨sv, xs'.take (4 * i), by rw [show 4 * (i + 1) = 4 * i + 4 by omega]; rfl, h2, h3, h4, he, h6.take i⟩
theorem EntL.drop {w : World} {B : Nat} : ∀ {es : Es} {xs : List Value} (i : Nat), EntL w B es xs → EntL w B (dropE i es) (xs.drop (4 * i))
  | _, _, 0, h => by simpa [dropE] using h
  | .nil, _, i + 1, h => by rw [show _ = [] from h]; simp [dropE, EntL]
  | .cons nm k d s nx, _, i + 1, h => by
    obtain ⟨sv, xs', rfl, h2, h3, h4, he, h6⟩ := h
    have := h6.drop i
    rw [show 4 * (i + 1) = 4 * i + 4 by omega]
    exact this
/-- How many entries stand ahead of a name. -/
def aheadE (nm : ByteArray) : Es → Nat
  | .nil => 0
  | .cons n' _ _ _ nx => if Op.bytesLess n'.toList nm.toList then aheadE nm nx + 1 else 0
/-- An entry more, in its place. -/
def insE (nm : ByteArray) (x : Nd) (es : Es) : Es := appE (takeE (aheadE nm es) es) (.cons nm x.k x.d x.es (dropE (aheadE nm es) es))
theorem ahead_drop (nm : ByteArray) : ∀ (es : Es) (i : Nat), i ≤ aheadE nm es → aheadE nm es = i + aheadE nm (dropE i es)
  | es, 0, _ => by simp [dropE]
  | .nil, i + 1, h => by simp [aheadE] at h
  | .cons n' k d s nx, i + 1, h => by
    have e : aheadE nm (.cons n' k d s nx) = if Op.bytesLess n'.toList nm.toList then aheadE nm nx + 1 else 0 := rfl
    have e2 : dropE (i + 1) (.cons n' k d s nx) = dropE i nx := rfl
    rw [e] at h ⊢
    rw [e2]
    split at h
    · rename_i hb
      rw [if_pos hb]
      have := ahead_drop nm nx i (by omega)
      omega
    · omega
/-- The first entry behind a row's beginning. -/
theorem drop_head : ∀ (es : Es) (i : Nat), i < es.len → ∃ nm k d s, dropE i es = .cons nm k d s (dropE (i + 1) es) ∧ kidE es i = ⟨k, d, s⟩
  | .nil, _, h => by simp [Es.len] at h
  | .cons nm k d s nx, 0, _ => ⟨nm, k, d, s, by simp [dropE], rfl⟩
  | .cons nm k d s nx, i + 1, h => by
    obtain ⟨nm', k', d', s', h1, h2⟩ := drop_head nx i (by simp [Es.len] at h; omega)
    exact ⟨nm', k', d', s', by simp only [dropE] at h1 ⊢; exact h1, h2⟩
theorem drop_all : ∀ es : Es, dropE es.len es = .nil
  | .nil => rfl
  | .cons _ _ _ _ nx => by simp only [Es.len, dropE, drop_all nx]
theorem take_len : ∀ (es : Es) (i : Nat), i ≤ es.len → (takeE i es).len = i
  | _, 0, _ => by simp [takeE, Es.len]
  | .nil, i + 1, h => by simp [Es.len] at h
  | .cons _ _ _ _ nx, i + 1, h => by simp only [takeE, Es.len]; rw [take_len nx i (by simp [Es.len] at h; omega)]
theorem drop_len : ∀ (es : Es) (i : Nat), i ≤ es.len → (dropE i es).len = es.len - i
  | _, 0, _ => by simp [dropE]
  | .nil, i + 1, h => by simp [Es.len] at h
  | .cons _ _ _ _ nx, i + 1, h => by simp only [dropE, Es.len]; rw [drop_len nx i (by simp [Es.len] at h; omega)]; omega
theorem app_len : ∀ a b : Es, (appE a b).len = a.len + b.len
  | .nil, b => by simp [appE, Es.len]
  | .cons _ _ _ _ nx, b => by simp only [appE, Es.len, app_len nx b]; omega
theorem aheadE_le (nm : ByteArray) : ∀ es : Es, aheadE nm es ≤ es.len
  | .nil => Nat.le_refl _
  | .cons n' _ _ _ nx => by
    have := aheadE_le nm nx
    unfold aheadE Es.len
    split <;> omega
end Go.Proofs.YtmcafiihicanfaaDoor
