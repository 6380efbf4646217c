/- files: FilesKnown: the wide row in memory; deep trees. -/
import Derived.Test.YtmcafiihicanfaaDoorFilUc
import Derived.Test.YtmcafiihicanfaaDoorFilUb
set_option linter.unusedVariables false
set_option linter.unusedSimpArgs false
namespace Go.Proofs.YtmcafiihicanfaaDoor
open Go Go.RowKit Go.BigFrame
open Fil (Es Nd Sp)

def wideL : Nat → Nat → List Value
  | _, 0 => []
  | i, m + 1 => .string (nmW i) :: .int .u8 1 :: .string ⟨#[]⟩ :: .slice none 0 0 :: wideL (i + 1) m
theorem wideL_ent (w : World) (B : Nat) : ∀ m i, EntL w B (wideF i m) (wideL i m)
  | 0, _ => rfl
  | m + 1, i => ⟨_, _, rfl, (by decide : 3 ≤ maxLen), (by decide : (ByteArray.mk #[]).size ≤ maxLen), (by decide : 1 < 256), EsAt.nil _ _, wideL_ent w B m (i + 1)⟩
theorem wideL_snoc : ∀ m i, wideL i m ++ [.string (nmW (i + m)), .int .u8 1, .string ⟨#[]⟩, .slice none 0 0] = wideL i (m + 1)
  | 0, _ => rfl
  | m + 1, i => by
    have h := wideL_snoc m (i + 1)
    rw [show i + 1 + m = i + (m + 1) by omega] at h
    show _ :: _ :: _ :: _ :: (wideL (i + 1) m ++ _) = _ :: _ :: _ :: _ :: wideL (i + 1) (m + 1)
    rw [h]
theorem wide_pre {w : World} {B : Nat} : ∀ (m i : Nat) (ad : Addr), CellsAt w B (wideF i (m + 1)) ad → CellsAt w B (wideF i m) ad
  | 0, _, _, _ => trivial
  | m + 1, i, ad, h => by
    obtain ⟨h1, h2, h3, h4, h5, h6, h7, h8⟩ := h
    exact ⟨h1, h2, h3, h4, h5, h6, h7, wide_pre m (i + 1) _ h8⟩
theorem es_pre {w : World} {B m c : Nat} {A : Option Addr} (h : EsAt w B (.slice A (m + 1) c) (wideF 0 (m + 1))) : EsAt w B (.slice A m c) (wideF 0 m) := by
  obtain ⟨A', c', e, h2, h3, h4, h5⟩ := h
  rw [wideF_len] at e h2 h5
  injection e with e1 e2 e3
  subst e1; subst e3
  refine ⟨A, c, by rw [wideF_len], by rw [wideF_len]; omega, h3, h4, fun hp => ?_⟩
  obtain ⟨a, ha, hl, hc⟩ := h5 (by omega)
  exact ⟨a, ha, hl, wide_pre m 0 a hc⟩
def endN : Nd := ⟨1, ⟨#[]⟩, .nil⟩
theorem end_at (w : World) : NdV w w.heap.size (.agg #[.int .u8 1, .string ⟨#[]⟩, .slice none 0 0]) endN := ⟨_, rfl, EsAt.nil _ _, (by decide : (ByteArray.mk #[]).size ≤ maxLen), (by decide : (1 : Nat) < 256)⟩
theorem deep_right : (chainN 32 endN).right = true := by kernel_rfl
theorem deep_wrong : (chainN 33 endN).right = false := by kernel_rfl
theorem deep_put : (putR (chainN 32 endN) ⟨#[99, 47, 100]⟩ (chainN 31 endN)).1 = 70 := by kernel_rfl
theorem deep_count : (chainN 32 endN).es.count ≤ 1000000 ∧ (chainN 31 endN).es.count ≤ 1000000 := by decide +kernel
theorem deep_flat : (chainN 32 endN).flat.length ≤ 1000000000 ∧ (chainN 33 endN).flat.length ≤ 1000000000 := by
  rw [Fil.Nd.flat_len, Fil.Nd.flat_len]
  decide +kernel
theorem wide_flat (n : Nat) (h : n ≤ 4096) : (wideN n).flat.length ≤ 1000000000 := by
  rw [Fil.Nd.flat_len]
  have := wideF_count n 0
  simp [Nd.count, wideN, this]
  omega
theorem file_flat (d : ByteArray) : (Nd.mk 1 d .nil).flat.length ≤ 1000000000 := by
  rw [Fil.Nd.flat_len]
  simp [Nd.count, Es.count]
/-- The wide directory under way. -/
def WideAt (w : World) (b0 g11 g12 : Nat) (tf : ByteArray) (n : Nat) (W : World) : Prop :=
  ∃ A c, W.heap[g12]? = some (ndCells 4 ⟨#[]⟩ (.slice A n c)) ∧ W.heap[g11]? = some (ndCells 1 tf (.slice none 0 0)) ∧ Below w.heap.size w W ∧ b0 ≤ W.heap.size ∧ W.ownsRow b0 48 4 (.slice A n c) n (wideL 0 n)
theorem WideAt.es {w : World} {b0 g11 g12 : Nat} {tf : ByteArray} {n : Nat} {W : World} {A : Option Addr} {c : Nat} (h : W.ownsRow b0 48 4 (.slice A n c) n (wideL 0 n)) (hn : n ≤ 4096) : EsAt W W.heap.size (.slice A n c) (wideF 0 n) :=
  ownE_cells h (wideF_len n 0).symm (wideL_ent W W.heap.size n 0) (Nat.le_refl _) (by unfold maxLen; omega)
end Go.Proofs.YtmcafiihicanfaaDoor
