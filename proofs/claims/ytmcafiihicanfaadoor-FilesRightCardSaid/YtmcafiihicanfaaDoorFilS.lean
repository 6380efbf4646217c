/- files: row. -/
import Derived.Test.YtmcafiihicanfaaDoorFilR
import Derived.Test.YtmcafiihicanfaaDoorSplit
set_option linter.unusedVariables false
set_option linter.unusedSimpArgs false
namespace Go.Proofs.YtmcafiihicanfaaDoor
open Go Go.RowKit Go.BigFrame
open Fil (Es Nd Sp)

/-- A row of texts of its own. -/
def TxAt (W : World) (b : Nat) (v : Value) (l : List ByteArray) : Prop :=
  (l = [] ∧ v = .slice none 0 0) ∨ ∃ g, b ≤ g ∧ v = .slice (some ⟨g, 0, none⟩) l.length l.length ∧ W.heap[g]? = some (.cells (l.map Value.string).toArray 9 (0, 0))
/-- The names of a path. -/
def rowN (s : ByteArray) : Option (List ByteArray) := if s.toList.isEmpty then some [] else if (piecesB 47 s).all Fil.nameB then some (piecesB 47 s) else none
def RowPost (w : World) (s : ByteArray) (e : Ending) (W : World) : Prop :=
  Below w.heap.size w W ∧ match rowN s with
  | none => e = .returned (.tuple #[.slice none 0 0, .bool false])
  | some l => ∃ v, e = .returned (.tuple #[v, .bool true]) ∧ TxAt W w.heap.size v l
set_option maxRecDepth 1000000 in
set_option maxRecDepth 100000 in
set_option maxHeartbeats 4000000 in
theorem row_any (s : ByteArray) (hs : s.size < 4294967281) (w : World) : Calls Tryd.prog 43 #[.string s] w (RowPost w s) := by
  go_enter Tryd.func43, Tryd.ntmps43
  rcases Bool.eq_false_or_eq_true s.toList.isEmpty with he | he
  · have HR := Lib.hid (show rowN s = some [] by unfold rowN; rw [if_pos he])
    go_wp2
    go_ret2
    refine ⟨Below.refl _ _, ?_⟩
    rw [HR.out]
    exact ⟨_, rfl, .inl ⟨rfl, rfl⟩⟩
  have HS := Lib.hid (fun w => split_any 47 s w hs)
  have HL := Lib.hid (pieces_le 47 s)
  have HR := Lib.hid (show rowN s = if (piecesB 47 s).all Fil.nameB then some (piecesB 47 s) else none by unfold rowN; rw [if_neg (by simp [he])])
  generalize piecesB 47 s = l at *
  go_wp2_with (go_at_call 53; refine (HS.out _).mono ?_; rintro e w' ⟨rfl, rfl⟩)
  have hbw0 : Below w.heap.size w (w.alloc (.cells (l.map Value.string).toArray 9)) := (Below.refl _ w).alloc (Nat.le_refl _) _
  have hg0 := heap_alloc_new w (.cells (l.map Value.string).toArray 9)
  have hsz : (w.alloc (.cells (l.map Value.string).toArray 9)).heap.size = w.heap.size + 1 := by simp
  have HB := Lib.hid (And.intro hbw0 (And.intro hg0 hsz))
  clear hbw0 hg0 hsz
  generalize w.alloc (.cells (l.map Value.string).toArray 9) = W0 at *
  go_loopg [6, 13] l.length (fun g _ u13 wx => ∃ i : Nat, u13 = .int .i64 (i : Int) ∧ i + g = l.length ∧ Below W0.heap.size W0 wx ∧ Hid (∀ j x, j < i → l[j]? = some x → Fil.nameB x = true))
  case atStart => exact ⟨0, rfl, by omega, Below.refl _ _, fun j x hj => by omega⟩
  case round =>
    obtain ⟨i, rfl, hig, hbw, HN⟩ := hrel
    have hbl : Below w.heap.size w wr := HB.out.1.trans (hbw.mono (by have := HB.out.2.2; omega))
    have hrow : wr.heap[w.heap.size]? = some (.cells (l.map Value.string).toArray 9 (0, 0)) := (hbw.block _ (by have := HB.out.2.2; omega)).trans HB.out.2.1
    cases gk with
    | zero =>
      obtain rfl : i = l.length := by omega
      have HR2 := Lib.hid (show rowN s = some l by
        rw [HR.out, if_pos]
        rw [List.all_eq_true]
        intro x hx
        obtain ⟨j, hj, rfl⟩ := List.getElem_of_mem hx
        exact HN.out j _ hj (List.getElem?_eq_getElem hj))
      have HRW := Lib.hid hrow
      clear hrow
      go_wp2
      go_ret2
      refine ⟨hbl, ?_⟩
      rw [HR2.out]
      exact ⟨_, rfl, .inr ⟨_, Nat.le_refl _, rfl, HRW.out⟩⟩
    | succ g =>
      have hil : i < l.length := by omega
      obtain ⟨x, hx⟩ : ∃ x, l[i]? = some x := ⟨_, List.getElem?_eq_getElem hil⟩
      have hcell : wr.cell? ⟨w.heap.size, i, none⟩ = some (.string x) := by
        rw [cell_of_row _ _ _ _ _ _ hrow]
        simp [hx]
      have HX := Lib.hid hx
      have hsl := HL.out
      have hw1 : IntKind.i64.wrap ((i : Int) + 1) = (i : Int) + 1 := IntWalk.i64_in _ (by omega)
      have HM := Lib.hid (fun w => name_any x w)
      clear hrow hx hsl
      rcases Bool.eq_false_or_eq_true (Fil.nameB x) with hn | hn
      · have HNX := Lib.hid hn
        go_wp2_with (go_at_call 10; refine (HM.out _).mono ?_; rintro e W2 ⟨rfl, hb2⟩; rw [hn])
        go_roundg g
        case measure => omega
        case rel =>
          refine ⟨i + 1, by simp, by omega, hbw.trans (hb2.mono hbw.size), fun j y hj hy => ?_⟩
          rcases Nat.lt_or_ge j i with hji | hji
          · exact HN.out j y hji hy
          · obtain rfl : j = i := by omega
            rw [HX.out] at hy
            cases hy
            exact HNX.out
      · have HR2 := Lib.hid (show rowN s = none by
          rw [HR.out, if_neg]
          intro ha
          rw [List.all_eq_true] at ha
          have := ha x (List.mem_of_getElem? HX.out)
          rw [hn] at this
          cases this)
        go_wp2_with (go_at_call 10; refine (HM.out _).mono ?_; rintro e W2 ⟨rfl, hb2⟩; rw [hn])
        go_ret2
        refine ⟨hbl.trans (hb2.mono hbl.size), ?_⟩
        rw [HR2.out]
        rfl
end Go.Proofs.YtmcafiihicanfaaDoor
