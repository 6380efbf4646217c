/- The walk of the law FilesAt. -/
import Derived.Test.YtcleebigfbbdbaaFmU
import Derived.Test.YtcleebigfbbdbaaFilSb
import Derived.Test.YtcleebigfbbdbaaFilSc
set_option linter.unusedVariables false
set_option linter.unusedSimpArgs false
namespace Go.Proofs.Ytcleebigfbbdbaa
open Go Go.RowKit Go.BigFrame
open Fil (Es Nd Sp)

theorem wei_count : ∀ es : Es, es.count ≤ weiE es
  | .nil => Nat.le_refl _
  | .cons _ _ _ s nx => by have h1 := wei_count s; have h2 := wei_count nx; simp only [Es.count, weiE]; omega
theorem wei_size : ∀ es : Es, es.size ≤ weiE es
  | .nil => Nat.le_refl _
  | .cons _ _ _ s nx => by have h1 := wei_size s; have h2 := wei_size nx; simp only [Es.size, weiE]; omega
theorem count_depth : ∀ es : Es, es.depth ≤ es.count
  | .nil => Nat.le_refl _
  | .cons _ _ _ s nx => by have h1 := count_depth s; have h2 := count_depth nx; simp only [Es.depth, Es.count]; omega
theorem atN_count : ∀ (l : List ByteArray) (nd x : Nd), atN nd l = some x → x.es.count ≤ nd.es.count
  | [], nd, x, h => by cases h; exact Nat.le_refl _
  | nm :: l, nd, x, h => by
    unfold atN at h
    split at h
    · rename_i hp
      have h1 := atN_count l _ x h
      have h2 := kid_count nd.es _ (placeN_lt hp)
      omega
    · cases h
theorem at_count (nd : Nd) (s : ByteArray) : (atR nd s).2.es.count ≤ nd.es.count := by
  unfold atR
  split
  · exact Nat.zero_le _
  · split
    · exact Nat.zero_le _
    · rename_i l _ x hx
      exact atN_count _ nd _ hx
/-- What Weight tells, in a law. -/
theorem wei_calls (top : Nat) (ht : top ≤ 1000000) (nd : Nd) (w : World) (B : Nat) (hB : B ≤ w.heap.size) (v : Value) (hv : NdV w B v nd) : Calls Try.prog 8 #[v, .int .i64 (top : Int)] w (WeiPost w nd top) :=
  weight_any _ nd (Nat.le_refl _) top ht w B hB v hv
end Go.Proofs.Ytcleebigfbbdbaa
