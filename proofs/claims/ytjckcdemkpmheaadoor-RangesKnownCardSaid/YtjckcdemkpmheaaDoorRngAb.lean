/- The chapter's examples: facts. -/
import Derived.Test.YtjckcdemkpmheaaDoorRngAa
namespace Go.Proofs.YtjckcdemkpmheaaDoor
open Go.RowKit Go.BigFrame

def g1 : ByteArray := ⟨#[62, 61, 49, 46, 50, 44, 60, 50]⟩
def g2 : ByteArray := ⟨#[126, 49, 46, 50, 46, 51]⟩
def g3 : ByteArray := ⟨#[61, 49, 124, 62, 51]⟩
def g4 : ByteArray := ⟨#[61, 48, 49]⟩
def v199 : ByteArray := ⟨#[49, 46, 57, 46, 57]⟩
def v2 : ByteArray := ⟨#[50]⟩
def v12r : ByteArray := ⟨#[49, 46, 50, 45, 114, 99, 49]⟩
def v1210 : ByteArray := ⟨#[49, 46, 50, 46, 49, 48]⟩
def v13 : ByteArray := ⟨#[49, 46, 51]⟩
def v31 : ByteArray := ⟨#[51, 46, 49]⟩
def v10 : ByteArray := ⟨#[49, 46, 48]⟩
def v12 : ByteArray := ⟨#[49, 46, 50]⟩
def v19 : ByteArray := ⟨#[49, 46, 57]⟩
theorem m1_ : mayR (rowsB g1) = true := by decide +kernel
theorem m2_ : mayR (rowsB g2) = true := by decide +kernel
theorem m3_ : mayR (rowsB g3) = true := by decide +kernel
theorem m4_ : mayR (rowsB g4) = false := by decide +kernel
theorem p1_ : prS (rowsB g1) = g1 ∧ prE (rowsB g1) = 0 := by decide +kernel
theorem a1_ : allowR (rowsB g1) v199 = true ∧ allowR (rowsB g1) v2 = false ∧ allowR (rowsB g1) v12r = false := by decide +kernel
theorem a2_ : allowR (rowsB g2) v1210 = true ∧ allowR (rowsB g2) v13 = false := by decide +kernel
theorem a3_ : allowR (rowsB g3) v31 = true ∧ allowR (rowsB g3) v10 = false := by decide +kernel
theorem b1_ : bestR (rowsB g1) [v12, v2, v19, v19] = 2 ∧ bestR (rowsB g1) [] = -1 := by decide +kernel
end Go.Proofs.YtjckcdemkpmheaaDoor
