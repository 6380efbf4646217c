/- files: Put. -/
import Derived.Test.YtcleebigfbbdbaaFilQc
import Derived.Test.YtcleebigfbbdbaaFilPb
set_option linter.unusedVariables false
set_option linter.unusedSimpArgs false
namespace Go.Proofs.Ytcleebigfbbdbaa
open Go Go.RowKit Go.BigFrame
open Fil (Es Nd Sp)

theorem app_count : ∀ a b : Es, (appE a b).count = a.count + b.count
  | .nil, b => by simp [appE, Es.count]
  | .cons _ _ _ s nx, b => by simp only [appE, Es.count, app_count nx b]; omega
theorem cut_count : ∀ (es : Es) (i : Nat), (takeE i es).count + (dropE i es).count = es.count
  | es, 0 => by simp [takeE, dropE, Es.count]
  | .nil, i + 1 => by simp [takeE, dropE, Es.count]
  | .cons _ _ _ s nx, i + 1 => by have := cut_count nx i; simp only [takeE, dropE, Es.count]; omega
theorem ins_count (nm : ByteArray) (x : Nd) (es : Es) : (insE nm x es).count = es.count + 1 + x.es.count := by
  have := cut_count es (aheadE nm es)
  unfold insE
  rw [app_count]
  simp only [Es.count]
  omega
theorem set_count : ∀ (es : Es) (i : Nat) (y : Nd), i < es.len → (setE es i y).count + (kidE es i).es.count = es.count + y.es.count
  | .nil, _, _, h => by simp [Es.len] at h
  | .cons _ k d s nx, 0, y, _ => by simp only [setE, kidE, Es.count]; omega
  | .cons _ _ _ s nx, i + 1, y, h => by have := set_count nx i y (by simp [Es.len] at h; omega); simp only [setE, kidE, Es.count]; omega
theorem with_count : ∀ (l : List ByteArray) (nd x y : Nd), withN nd l x = some y → y.es.count ≤ nd.es.count + 1 + x.es.count
  | [], nd, x, y, h => by
    unfold withN at h
    cases h
    omega
  | nm :: l, nd, x, y, h => by
    unfold withN at h
    split at h
    · split at h
      · rename_i hp
        split at h
        · rename_i z hz
          cases h
          have h1 := with_count l _ x z hz
          have h2 := set_count nd.es _ z (placeN_lt hp)
          show (setE nd.es (placeN nd nm).1 z).count ≤ _
          omega
        · cases h
      · split at h
        · cases h
          show (insE nm x nd.es).count ≤ _
          rw [ins_count]; omega
        · cases h
    · cases h
/-- What Put answers. -/
def putR (nd : Nd) (s : ByteArray) (x : Nd) : Nat × Nd :=
  if nd.right && x.right then
    (match rowN s with
    | none => (2, zNd)
    | some l => match withN nd l x with
      | none => (5, zNd)
      | some y => if y.right then (0, y) else (70, zNd))
  else (70, zNd)
def PutPost (w : World) (r : Nat × Nd) (e : Ending) (W : World) : Prop :=
  Below w.heap.size w W ∧ ∃ v, e = .returned (.tuple #[v, .int .i64 (r.1 : Int)]) ∧ NdV W W.heap.size v r.2
theorem TxS.of {w : World} {b : Nat} {v : Value} {l : List ByteArray} (h : TxAt w b v l) (hl : l.length ≤ maxLen) : TxS w v l := by
  rcases h with ⟨rfl, rfl⟩ | ⟨g, h1, rfl, h2⟩
  · exact ⟨none, 0, rfl, Nat.le_refl _, Nat.zero_le _, fun h => absurd h (Nat.lt_irrefl 0)⟩
  · refine ⟨_, _, rfl, Nat.le_refl _, hl, fun _ => ⟨g, 0, rfl, block_lt h2, fun i x hx => ?_⟩⟩
    rw [Nat.zero_add, cell_of_row _ _ _ _ _ _ h2]
    simp [hx]
theorem row_names {s : ByteArray} {l : List ByteArray} (h : rowN s = some l) : ∀ x ∈ l, x.size ≤ 255 := by
  unfold rowN at h
  split at h
  · cases h; intro x hx; cases hx
  · split at h
    · rename_i ha
      cases h
      intro x hx
      rw [List.all_eq_true] at ha
      exact Fil.nameB_size (ha x hx)
    · cases h
theorem right_calls (v : Value) (nd : Nd) (w : World) (hv : NdV w w.heap.size v nd) (hN : nd.es.count ≤ 100000000) : Calls Try.prog 23 #[v] w fun e W => e = .returned (.bool nd.right) ∧ Below w.heap.size w W :=
  callsIn_wide.1 (right_any 5 (Nat.le_refl _) v nd w hv (by rw [Fil.Nd.flat_len]; unfold Fil.Nd.count; omega))
end Go.Proofs.Ytcleebigfbbdbaa
