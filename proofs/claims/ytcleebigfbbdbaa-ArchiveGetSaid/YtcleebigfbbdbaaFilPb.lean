/- files: Paths. -/
import Derived.Test.YtcleebigfbbdbaaFilZ
import Derived.Test.YtcleebigfbbdbaaFilPa
set_option linter.unusedVariables false
set_option linter.unusedSimpArgs false
namespace Go.Proofs.Ytcleebigfbbdbaa
open Go Go.RowKit Go.BigFrame
open Fil (Es Nd Sp)
attribute [local go_sem] Oper.semAt_some

def ab0 : Nat → ByteArray := fun _ => ⟨#[]⟩
theorem own_kept {A C : World} {b n : Nat} {v : Value} {xs : List Value} (h : A.ownsRow b 9 1 v n xs) (hk : ∀ (g : Nat) (cs : Array Value), A.heap[g]? = some (.cells cs 9 (0, 0)) → C.heap[g]? = some (.cells cs 9 (0, 0))) : C.ownsRow b 9 1 v n xs := by
  obtain ⟨hl, h0 | ⟨g, cap, cur, e, h1, h2, h3⟩⟩ := h
  · exact ⟨hl, .inl h0⟩
  · exact ⟨hl, .inr ⟨g, cap, cur, e, h1, hk _ _ h2, h3⟩⟩
theorem grown_kept {A C : World} {row : Option Nat} (hg : A.grownBy C row) (hr : ∀ r, row = some r → ∃ o : Obj, A.heap[r]? = some o ∧ (itE o = true ∨ o.isCells = false)) {g : Nat} {cs : Array Value} {T : TypeId} (hT : T ≠ 22) (h : A.heap[g]? = some (.cells cs T (0, 0))) : C.heap[g]? = some (.cells cs T (0, 0)) := by
  refine (hg.block g (Array.getElem?_eq_some_iff.1 h).1 fun e => ?_).trans h
  obtain ⟨o, ho, hq⟩ := hr g e.symm
  rw [h] at ho
  cases ho
  rcases hq with hq | hq
  · exact hT (by simpa [itE] using hq)
  · cases hq
theorem Rd.of_own {D B bn b : Nat} {W W' : World} {v : Value} {n : Nat} {xs : List Value} (hown : W.ownsRow b 9 1 v n xs) (hg : W.grownBy W' v.ownBlock) (hb : B ≤ b) (hBW : B ≤ W.heap.size) (hbn : bn < W.heap.size) (hne : ∀ cs, W.heap[bn]? ≠ some (.cells cs 9 (0, 0))) : Rd D B bn W W' := by
  obtain ⟨hl, ⟨h0, _⟩ | ⟨g, cap, cur, e, h1, h2, h3⟩⟩ := hown
  · subst h0
    exact Rd.of_below (below_of_grown hg) hBW hbn
  · subst e
    exact Rd.step hg h2 (Nat.le_trans hb h1) hbn (fun e => hne cur (by rw [e]; exact h2)) (by decide)
theorem pathsF_len : ∀ (l : List Sp) (ab : Nat → ByteArray), (Fil.pathsF ab l).length = l.length
  | [], _ => rfl
  | x :: l, ab => by simp [Fil.pathsF, pathsF_len l]
theorem own_ne {W : World} {b n k : Nat} {v : Value} {xs : List Value} {cs : Array Value} {T : TypeId} (h : W.ownsRow b 9 1 v n xs) (hk : W.heap[k]? = some (.cells cs T (0, 0))) (hT : T ≠ 9) : some k ≠ v.ownBlock := fun e => by
  obtain ⟨hl, ⟨h0, _⟩ | ⟨g, cap, cur, e2, h1, h2, h3⟩⟩ := h
  · subst h0; cases e
  · subst e2
    have : k = g := Option.some.inj e
    subst this
    rw [hk] at h2
    cases h2
    exact hT rfl
/-- The paths of a right tree; none of another. -/
def pathsR (nd : Nd) : List ByteArray := if nd.right then nd.paths else []
def PathsPost (w : World) (nd : Nd) (e : Ending) (W : World) : Prop :=
  Below w.heap.size w W ∧ ∃ v, e = .returned v ∧ W.ownsRow w.heap.size 9 1 v (pathsR nd).length ((pathsR nd).map Value.string)
end Go.Proofs.Ytcleebigfbbdbaa
