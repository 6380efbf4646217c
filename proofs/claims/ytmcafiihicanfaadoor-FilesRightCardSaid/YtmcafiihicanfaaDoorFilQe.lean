/- files: the examples' facts. -/
import Derived.Test.YtmcafiihicanfaaDoorFilQd
set_option linter.unusedVariables false
set_option linter.unusedSimpArgs false
namespace Go.Proofs.YtmcafiihicanfaaDoor
open Go Go.RowKit Go.BigFrame
open Fil (Es Nd Sp)

def dN : Es := .cons ⟨#[120]⟩ 3 ⟨#[46, 46, 47, 97]⟩ .nil .nil
def nN : Nd := ⟨4, ⟨#[]⟩, .cons ⟨#[97]⟩ 1 ⟨#[104, 105]⟩ .nil (.cons ⟨#[100]⟩ 4 ⟨#[]⟩ dN .nil)⟩
def mN : Nd := ⟨4, ⟨#[]⟩, .cons ⟨#[97]⟩ 1 ⟨#[104, 105]⟩ .nil (.cons ⟨#[100]⟩ 4 ⟨#[]⟩ (.cons ⟨#[120]⟩ 3 ⟨#[46, 46, 47, 97]⟩ .nil (.cons ⟨#[121]⟩ 1 ⟨#[]⟩ .nil .nil)) .nil)⟩
theorem ex_at1 : atR nN ⟨#[100, 47, 120]⟩ = (0, ⟨3, ⟨#[46, 46, 47, 97]⟩, .nil⟩) := by kernel_rfl
theorem ex_at2 : atR nN ⟨#[100, 47, 121]⟩ = (5, zNd) := by kernel_rfl
theorem ex_at3 : atR nN ⟨#[47, 100]⟩ = (2, zNd) := by kernel_rfl
theorem ex_put : putR nN ⟨#[100, 47, 121]⟩ ⟨1, ⟨#[]⟩, .nil⟩ = (0, mN) := by kernel_rfl
theorem ex_count : nN.count = 4 := by kernel_rfl
theorem ex_depth : nN.depth = 2 := by kernel_rfl
theorem ex_size : nN.size = 6 := by kernel_rfl
theorem ex_right : nN.right = true := by kernel_rfl
theorem ex_paths : pathsR nN = [⟨#[]⟩, ⟨#[97]⟩, ⟨#[100]⟩, ⟨#[100, 47, 120]⟩] := by kernel_rfl
theorem ex_paths2 : pathsR mN = [⟨#[]⟩, ⟨#[97]⟩, ⟨#[100]⟩, ⟨#[100, 47, 120]⟩, ⟨#[100, 47, 121]⟩] := by kernel_rfl
theorem ex_name : Fil.nameB ⟨#[97]⟩ = true := by kernel_rfl
end Go.Proofs.YtmcafiihicanfaaDoor
