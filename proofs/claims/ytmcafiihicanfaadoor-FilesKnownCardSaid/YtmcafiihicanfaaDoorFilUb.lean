/- files: FilesKnown: wide and deep trees, in plain maths. -/
import Derived.Test.YtmcafiihicanfaaDoorFilP
set_option linter.unusedVariables false
set_option linter.unusedSimpArgs false
namespace Go.Proofs.YtmcafiihicanfaaDoor
open Go
open Fil (Es Nd Sp)

/-- The name of the i-th entry of the wide directory. -/
def nmW (i : Nat) : ByteArray := ⟨#[UInt8.ofNat (65 + i / 256), UInt8.ofNat (97 + i / 16 % 16), UInt8.ofNat (97 + i % 16)]⟩
def wideF : Nat → Nat → Es
  | _, 0 => .nil
  | i, m + 1 => .cons (nmW i) 1 ⟨#[]⟩ .nil (wideF (i + 1) m)
def wideN (n : Nat) : Nd := ⟨4, ⟨#[]⟩, wideF 0 n⟩
theorem wideF_len : ∀ m i, (wideF i m).len = m
  | 0, _ => rfl
  | m + 1, i => by simp [wideF, Es.len, wideF_len m]
theorem wideF_count : ∀ m i, (wideF i m).count = m
  | 0, _ => rfl
  | m + 1, i => by simp [wideF, Es.count, wideF_count m]; omega
theorem wideF_depth : ∀ m i, (wideF i m).depth ≤ 1
  | 0, _ => Nat.zero_le _
  | m + 1, i => by have := wideF_depth m (i + 1); simp [wideF, Es.depth]; omega
theorem wideF_may : ∀ m i, (wideF i m).may = true
  | 0, _ => rfl
  | m + 1, i => by simp [wideF, Es.may, wideF_may m, Fil.okB, Es.len]; decide
def okW (i : Nat) : Bool := Fil.nameB (nmW i) && Fil.ltS (nmW i) (nmW (i + 1))
theorem okW_all : (List.range 4096).all okW = true := by kernel_rfl
theorem okW_at {i : Nat} (h : i < 4096) : Fil.nameB (nmW i) = true ∧ Fil.ltS (nmW i) (nmW (i + 1)) = true := by
  have := List.all_eq_true.1 okW_all i (List.mem_range.2 h)
  simpa [okW] using this
theorem wideF_names : ∀ m i last, Fil.ltS last (nmW i) = true → i + m ≤ 4096 → Fil.namesB last (wideF i m) = true
  | 0, _, _, _, _ => rfl
  | m + 1, i, last, h, hm => by
    obtain ⟨h1, h2⟩ := okW_at (show i < 4096 by omega)
    simp only [wideF, Fil.namesB, h, h1, wideF_names m (i + 1) _ h2 (by omega), Bool.and_self]
theorem wide_right (n : Nat) (hn : n ≤ 4096) : (wideN n).right = decide (n + 1 ≤ 4096) := by
  have h1 := wideF_count n 0
  have h2 := wideF_depth n 0
  have h3 := wideF_may n 0
  have h4 := wideF_names n 0 ⟨#[]⟩ (by kernel_rfl) (by omega)
  have h5 : (ByteArray.mk #[]).size = 0 := rfl
  simp [Nd.right, Nd.count, Nd.depth, Nd.may, wideN, h1, h3, Fil.okB, h4, h5, show (wideF 0 n).depth ≤ 32 by omega]
  omega
theorem file_right (d : ByteArray) : (Nd.mk 1 d .nil).right = decide (d.size ≤ 65536) := by
  simp [Nd.right, Nd.count, Nd.depth, Nd.may, Es.count, Es.depth, Es.may, Es.len, Fil.okB]
end Go.Proofs.YtmcafiihicanfaaDoor
