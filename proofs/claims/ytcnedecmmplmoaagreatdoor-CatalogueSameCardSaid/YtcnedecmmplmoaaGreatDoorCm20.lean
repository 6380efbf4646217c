/- The chapter's examples: facts. -/
import Derived.Test.YtcnedecmmplmoaaGreatDoorCm19
import Derived.Test.YtcnedecmmplmoaaGreatDoorRows
import Derived.Test.YtcnedecmmplmoaaGreatDoorTie
import Derived.LaidMore
set_option linter.unusedVariables false
set_option linter.unusedSimpArgs false
namespace Go.Proofs.YtcnedecmmplmoaaGreatDoor
open Go.RowKit Go.BigFrame

def g1 : ByteArray := ⟨#[62, 61, 49, 46, 50, 44, 60, 50]⟩
def g2 : ByteArray := ⟨#[126, 49, 46, 50, 46, 51]⟩
def g3 : ByteArray := ⟨#[61, 49, 124, 62, 51]⟩
def g4 : ByteArray := ⟨#[61, 48, 49]⟩
def v199 : ByteArray := ⟨#[49, 46, 57, 46, 57]⟩
def v2 : ByteArray := ⟨#[50]⟩
def v12r : ByteArray := ⟨#[49, 46, 50, 45, 114, 99, 49]⟩
def v1210 : ByteArray := ⟨#[49, 46, 50, 46, 49, 48]⟩
def v13 : ByteArray := ⟨#[49, 46, 51]⟩
def v31 : ByteArray := ⟨#[51, 46, 49]⟩
def v10 : ByteArray := ⟨#[49, 46, 48]⟩
def v12 : ByteArray := ⟨#[49, 46, 50]⟩
def v19 : ByteArray := ⟨#[49, 46, 57]⟩
theorem m1_ : mayR (rowsB g1) = true := by decide +kernel
theorem m2_ : mayR (rowsB g2) = true := by decide +kernel
theorem m3_ : mayR (rowsB g3) = true := by decide +kernel
theorem m4_ : mayR (rowsB g4) = false := by decide +kernel
theorem p1_ : prS (rowsB g1) = g1 ∧ prE (rowsB g1) = 0 := by decide +kernel
theorem a1_ : allowR (rowsB g1) v199 = true ∧ allowR (rowsB g1) v2 = false ∧ allowR (rowsB g1) v12r = false := by decide +kernel
theorem a2_ : allowR (rowsB g2) v1210 = true ∧ allowR (rowsB g2) v13 = false := by decide +kernel
theorem a3_ : allowR (rowsB g3) v31 = true ∧ allowR (rowsB g3) v10 = false := by decide +kernel
theorem b1_ : bestR (rowsB g1) [v12, v2, v19, v19] = 2 ∧ bestR (rowsB g1) [] = -1 := by decide +kernel
end Go.Proofs.YtcnedecmmplmoaaGreatDoor

/- The chapter's examples: works answers true. -/
namespace Go.Proofs.YtcnedecmmplmoaaGreatDoor
open Go.RowKit Go.BigFrame

theorem rparse_yes (s : ByteArray) (w : World) (hs : s.size ≤ 1000000) (hm : mayR (rowsB s) = true) : Calls Tryz.prog 114 #[.string s] w (PRYes s w) :=
  (rparse_any s w hs).mono fun _ _ h => by unfold PR at h; rwa [if_pos hm] at h
theorem rparse_no (s : ByteArray) (w : World) (hs : s.size ≤ 1000000) (hm : mayR (rowsB s) = false) : Calls Tryz.prog 114 #[.string s] w (PRNo w) :=
  (rparse_any s w hs).mono fun _ _ h => by unfold PR at h; rwa [hm, if_neg (by simp)] at h
theorem allow_is (b : Bool) (r : List (List Bd)) (v : Value) (s : ByteArray) (w : World) (h : RngAt w v r) (hsz : Short r) (hs : s.size ≤ 1000000) (he : allowR r s = b) :
    Calls Tryz.prog 49 #[v, .string s] w fun e w' => e = .returned (.bool b) ∧ Below w.heap.size w w' := he ▸ allow_any r v s w h hsz hs
theorem print_is (t : ByteArray) (z : Int) (r : List (List Bd)) (v : Value) (w : World) (h : RngAt w v r) (hsz : Short r) (he : prS r = t ∧ prE r = z) :
    Calls Tryz.prog 65 #[v] w fun e w' => e = .returned (.tuple #[.string t, .int .i64 z]) ∧ Below w.heap.size w w' := he.1 ▸ he.2 ▸ print_any r v w h hsz
theorem reads_new (w : World) (cs : Array Value) (T : TypeId) (xs : List Value) (h : cs.toList = xs) (hn : xs.length ≤ 1000) : Reads (w.alloc (.cells cs T)) (w.alloc (.cells cs T)).heap.size (.slice (some ⟨w.heap.size, 0, none⟩) xs.length xs.length) xs :=
  ⟨_, _, rfl, Nat.le_refl _, by unfold maxLen; omega, (fun h => by cases h), fun _ => ⟨_, rfl, by simp, fun j u hu => row_cells (heap_alloc_new w (.cells cs T)) j u (by rw [← hu, ← h]; simp)⟩⟩
theorem sh1 : Short (rowsB g1) := rows_short g1 (by decide)
theorem sh2 : Short (rowsB g2) := rows_short g2 (by decide)
theorem sh3 : Short (rowsB g3) := rows_short g3 (by decide)
theorem l4_ : ∀ s ∈ [v12, v2, v19, v19], s.size ≤ 1000000 := by decide
end Go.Proofs.YtcnedecmmplmoaaGreatDoor

/- The walk of the law RangesParse. -/
namespace Go.Proofs.YtcnedecmmplmoaaGreatDoor
open Go.RowKit Go.BigFrame

def laidL : List (String × DataW Unit) := [("unicode/utf8.acceptRanges", Rows.laid_unicode_utf8_acceptRanges), ("unicode/utf8.first", Rows.laid_unicode_utf8_first)]
theorem of_laid {W : World} (_ : laidMetH Tryz.prog laidL W) : True := trivial
theorem RngAt.nil (w : World) : RngAt w (.slice none 0 0) [] := ⟨[], RdS.nil w AllB, ItemsS.nil _ _ _⟩
theorem refrparse_yes (s : ByteArray) (w : World) (hs : s.size ≤ 1000000) (hm : mayR (rowsB s) = true) : Calls Tryz.prog 55 #[.string s] w (PRYes s w) :=
  (refrparse_any s w hs).mono fun _ _ h => by unfold PR at h; rwa [if_pos hm] at h
theorem refrparse_no (s : ByteArray) (w : World) (hs : s.size ≤ 1000000) (hm : mayR (rowsB s) = false) : Calls Tryz.prog 55 #[.string s] w (PRNo w) :=
  (refrparse_any s w hs).mono fun _ _ h => by unfold PR at h; rwa [hm, if_neg (by simp)] at h
end Go.Proofs.YtcnedecmmplmoaaGreatDoor
