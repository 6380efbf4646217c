/- scan: bytes in memory; the set of what was seen. -/
import Derived.Test.YtadlimfpcfdgcaaScnC
import Derived.Test.YtadlimfpcfdgcaaScnB
import Derived.Test.YtadlimfpcfdgcaaKeep
import Derived.RangeFuncBox
import Derived.RangeFuncWrites
import Derived.Maps.Own
import Derived.Maps.OwnIn
import Derived.Maps.OwnOps
import Derived.Maps.OwnSet
import Derived.Maps.Views
import Derived.Maps.AppendAt
set_option linter.unusedVariables false
set_option linter.unusedSimpArgs false
namespace Go.Proofs.Ytadlimfpcfdgcaa
open Go Go.RowKit Go.BigFrame Go.Maps
open Scn (runOf wins firsts)

def dOf (l : List UInt8) (i : Nat) : Nat := (l.getD i 0).toNat
theorem dOf_lt (l : List UInt8) (i : Nat) : dOf l i < 256 := (l.getD i 0).toNat_lt
theorem txt_dOf (l : List UInt8) : txt (dOf l) l.length = l := by
  apply List.ext_getElem
  · rw [txt_len]
  · intro i h1 h2
    simp [txt, dOf, h2]
/-- A slice that holds bytes. -/
def BytAt (W : World) (B : Nat) (v : Value) (l : List UInt8) : Prop :=
  ∃ A cap, v = .slice A l.length cap ∧ l.length ≤ cap ∧ cap ≤ maxLen ∧ (A = none → cap = 0) ∧ Holds W B A l.length (dOf l)
theorem BytAt.keep {W W' : World} {B : Nat} {v : Value} {l : List UInt8} (h : BytAt W B v l) (hb : Below B W W') : BytAt W' B v l := by
  obtain ⟨A, cap, h1, h2, h3, h4, h5⟩ := h
  exact ⟨A, cap, h1, h2, h3, h4, h5.below hb⟩
theorem BytAt.more {W : World} {B B' : Nat} {v : Value} {l : List UInt8} (h : BytAt W B v l) (hb : B ≤ B') : BytAt W B' v l := by
  obtain ⟨A, cap, h1, h2, h3, h4, h5⟩ := h
  exact ⟨A, cap, h1, h2, h3, h4, h5.more hb⟩
theorem BytAt.nil (W : World) (B : Nat) : BytAt W B (.slice none 0 0) [] := ⟨none, 0, rfl, Nat.le_refl _, Nat.zero_le _, fun _ => rfl, fun h => absurd h (Nat.lt_irrefl 0)⟩
theorem BytAt.form {W : World} {B : Nat} {v : Value} {l : List UInt8} (h : BytAt W B v l) : ∃ A cap, v = .slice A l.length cap ∧ l.length ≤ cap := by
  obtain ⟨A, cap, h1, h2, _⟩ := h
  exact ⟨A, cap, h1, h2⟩
theorem BytAt.conv {W : World} {B : Nat} {v : Value} {l : List UInt8} (h : BytAt W B v l) : (convert 22 9 v).run Try.prog W = .ok (.string (strOf l)) W := by
  obtain ⟨A, cap, rfl, h2, h3, h4, h5⟩ := h
  have := convert_holds (P := Try.prog) (src := 22) (dst := 9) (dOf_lt l) h5 h4 h2 Try.underlying22 Try.underlying5 Try.underlying9
  rw [txt_dOf] at this
  exact this
theorem bytes_conv (W : World) (l : List UInt8) (hn : l.length ≤ maxLen) : ∃ A cap w2, (convert 9 22 (.string (strOf l))).run Try.prog W = .ok (.slice A l.length cap) w2 ∧ Below W.heap.size W w2 ∧ BytAt w2 w2.heap.size (.slice A l.length cap) l := by
  obtain ⟨cap, w2, h1, h2, h3, h4, h5, _⟩ := bytes_of_txt (P := Try.prog) W 5 9 22 (dOf l) l.length (dOf_lt l) hn Try.underlying9 Try.underlying22 Try.underlying5
  rw [txt_dOf] at h3
  exact ⟨_, cap, w2, h3, h4, _, cap, rfl, h1, h2, (fun e => by cases e), h5⟩

/-- A text as a map's key. -/
def kS (s : ByteArray) : Lit := .string s.data.toList
theorem kS_inj {s t : ByteArray} (h : kS s = kS t) : s = t := by
  unfold kS at h
  injection h with h
  cases s; cases t; congr 1
  exact Array.ext' h
theorem kS_key (s : ByteArray) : WideAt.IsKeyLit (kS s) := by unfold kS; exact ⟨⟩
theorem keyStr : Keyed Try.prog 9 := string_keyed Try.underlying9
theorem zeroUnit (w : World) : (zeroValue 51).run Try.prog w = .ok (.agg #[]) w := by kernel_rfl
/-- Block mb is the set of texts l. -/
def SeenAt (w : World) (mb : Nat) (l : List ByteArray) : Prop :=
  ∃ D : DataW Unit, w.ownsMap Try.prog 9 unitElem mb l.length D ∧ ∀ s : ByteArray, has D (kS s) = isIn s l
theorem SeenAt.made (w : World) : SeenAt (w.alloc (.map #[] 0)) w.heap.size [] := ⟨_, World.ownsMap_made _ _ _ _, fun s => rfl⟩
theorem SeenAt.kept {w w' : World} {mb : Nat} {l : List ByteArray} {row : Option Nat} (h : SeenAt w mb l) (hg : w.grownBy w' row) (hne : some mb ≠ row) : SeenAt w' mb l := by
  obtain ⟨D, h1, h2⟩ := h; exact ⟨D, h1.kept hg hne, h2⟩
theorem SeenAt.lt {w : World} {mb : Nat} {l : List ByteArray} (h : SeenAt w mb l) : mb < w.heap.size := by
  obtain ⟨D, h1, _⟩ := h; exact h1.lt
theorem SeenAt.block {w w' : World} {mb : Nat} {l : List ByteArray} (h : SeenAt w mb l) (hb : w'.heap[mb]? = w.heap[mb]?) : SeenAt w' mb l := by
  obtain ⟨D, ⟨es, c, h1, h3⟩, h2⟩ := h; exact ⟨D, ⟨es, c, hb.trans h1, h3⟩, h2⟩
theorem isIn_snoc (t s : ByteArray) (l : List ByteArray) : isIn t (l ++ [s]) = (isIn t l || decide (s = t)) := by simp [isIn]
theorem SeenAt.put {w w' : World} {mb : Nat} {l : List ByteArray} {s : ByteArray} {D : DataW Unit} (ho : w.ownsMap Try.prog 9 unitElem mb l.length D)
    (hD : ∀ s : ByteArray, has D (kS s) = isIn s l) (h : w'.ownsMap Try.prog 9 unitElem mb (l.length + 1) (D.put (kS s) (.agg []))) : SeenAt w' mb (l ++ [s]) := by
  refine ⟨_, by rw [List.length_append]; exact h, fun t => ?_⟩
  rw [isIn_snoc]
  by_cases e : s = t
  · subst e
    rw [has_put_same ho.isMap (kS_key s)]
    simp
  · have hne : kS t ≠ kS s := fun h => e (kS_inj h).symm
    rw [has_put_other hne, hD t]
    simp [e]
theorem infoStr : (Try.prog.info? 9).map (fun i => (i.zero, i.size, i.bytes)) = some (some (.string ⟨#[]⟩), 1, 16) := by kernel_rfl
/-- What All answers. -/
def allF (s : ByteArray) : List ByteArray := firsts (winB s)
theorem firsts_len {α : Type} [DecidableEq α] (l : List α) : (firsts l).length ≤ l.length := by
  suffices h : ∀ (m acc : List α), (m.foldl (fun acc x => if x ∈ acc then acc else acc ++ [x]) acc).length ≤ acc.length + m.length by unfold Scn.firsts; simpa using h l []
  intro m
  induction m with
  | nil => intro acc; simp
  | cons y m ih =>
    intro acc
    rw [List.foldl_cons]
    refine Nat.le_trans (ih _) ?_
    by_cases hy : y ∈ acc
    · rw [if_pos hy]; simp
    · rw [if_neg hy]; simp; omega
theorem winB_len (s : ByteArray) : (winB s).length ≤ s.size + 1 := by
  unfold winB wins
  rw [List.length_map]
  refine Nat.le_trans (List.length_filter_le _ _) ?_
  simp
  have : s.data.size = s.size := rfl
  omega
end Go.Proofs.Ytadlimfpcfdgcaa
