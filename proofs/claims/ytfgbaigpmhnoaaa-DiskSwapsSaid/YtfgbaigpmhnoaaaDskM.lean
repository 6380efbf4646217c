/- disk: recover. -/
import Derived.Test.YtfgbaigpmhnoaaaDskL
set_option linter.unusedVariables false
set_option linter.unusedSimpArgs false
namespace Go.Proofs.Ytfgbaigpmhnoaaa
open Go.RowKit Go.BigFrame Go.Maps
open Dsk (Fl St Ok get put drop used)

/-- How many open bytes stay. -/
def staysN (n : Int) (o : Nat) : Nat := (n % ((o : Int) + 1)).toNat
theorem staysN_le (n : Int) (o : Nat) : staysN n o ≤ o := by
  unfold staysN
  have h1 := Int.emod_lt_of_pos n (show (0 : Int) < (o : Int) + 1 by omega)
  omega
theorem stays_if (n : Int) (o : Nat) : ∃ t : Int, n.tmod ((o : Int) + 1) = t ∧ -(o : Int) ≤ t ∧ t ≤ (o : Int) ∧ (0 ≤ t → (staysN n o : Int) = t) ∧ (t < 0 → (staysN n o : Int) = t + ((o : Int) + 1)) := by
  have hp : (0 : Int) < (o : Int) + 1 := by omega
  have h1 := Int.emod_nonneg n (show (o : Int) + 1 ≠ 0 by omega)
  have h2 := Int.emod_lt_of_pos n hp
  have h3 := Int.emod_nonneg (-n) (show (o : Int) + 1 ≠ 0 by omega)
  have h4 := Int.emod_lt_of_pos (-n) hp
  refine ⟨_, rfl, ?_⟩
  unfold staysN
  by_cases hn : 0 ≤ n
  · rw [Int.tmod_eq_emod_of_nonneg hn]
    omega
  · have e : n.tmod ((o : Int) + 1) = -((-n) % ((o : Int) + 1)) := by
      have := Int.neg_tmod (-n) ((o : Int) + 1)
      rw [Int.neg_neg] at this
      rw [this, Int.tmod_eq_emod_of_nonneg (by omega)]
    rw [e]
    have hs : (n + -n) % ((o : Int) + 1) = 0 := by simp [Int.add_right_neg]
    rw [Int.add_emod] at hs
    generalize n % ((o : Int) + 1) = a at *
    generalize (-n) % ((o : Int) + 1) = b at *
    have hab : a + b = 0 ∨ a + b = (o : Int) + 1 := by
      by_cases c : a + b < (o : Int) + 1
      · left
        rwa [Int.emod_eq_of_lt (by omega) c] at hs
      · right
        have h5 : (a + b - ((o : Int) + 1)) % ((o : Int) + 1) = 0 := by rw [Int.sub_emod_right]; exact hs
        rw [Int.emod_eq_of_lt (by omega) (by omega)] at h5
        omega
    omega
def recF (f : Fl) (n : Int) : Fl := ⟨f.b.take (f.sure + staysN n (f.b.length - f.sure)), f.sure + staysN n (f.b.length - f.sure), true⟩
def recFs (fs : Dsk.FS) (s : ByteArray) (f : Fl) (n : Int) : Dsk.FS := if (recF f n).sure = 0 ∧ f.ever = false then drop fs s else put fs s (recF f n)
theorem recF_len (f : Fl) (n : Int) (h : f.sure ≤ f.b.length) : (recF f n).b.length = (recF f n).sure ∧ (recF f n).sure ≤ f.b.length := by
  have := staysN_le n (f.b.length - f.sure)
  unfold recF
  simp only [List.length_take]
  omega
/-- Used, and the file's slice, cut. -/
def cutW (w : World) (db fb : Nat) (u : Nat) (A : Option Addr) (m cap : Nat) : World := (w.setCell ⟨db, 2, none⟩ (.int .i64 (u : Int))).drew.setCell ⟨fb, 0, none⟩ (.slice A m cap)
theorem cutW_facts {w : World} {base db mb n fb u m L cap : Nat} {D : DataW Unit} {av : Value} {ro : Nat → Role} {S : St} {s : ByteArray} {A : Option Addr} {f : Fl} (h : DiskIn w base db mb n D av ro S) (hfa : FileAt w base ro s fb (.slice A L cap) f) (hL : L = f.b.length) (hm : m ≤ L) :
    Ch w (cutW w db fb u A m cap) (fun b => b = fb ∨ b = db) ∧ (cutW w db fb u A m cap).heap[db]? = some (.cells ((diskCells mb av S).setIfInBounds 2 (.int .i64 (u : Int))) 58 (0, 0)) ∧ (cutW w db fb u A m cap).heap[fb]? = some (.cells #[.slice A m cap, .int .i64 (f.sure : Int), .bool f.ever] 64 (0, 0)) ∧ (cutW w db fb u A m cap).ownsRow base 5 1 (.slice A m cap) m (bvs (f.b.take m)) := by
  have hfd : fb ≠ db := fun e => by have := hfa.rfb; rw [e, h.rdb] at this; cases this
  have hc : Ch w (cutW w db fb u A m cap) (fun b => b = fb ∨ b = db) := (((Ch.refl w (fun b => b = fb ∨ b = db)).setCell (p := ⟨db, 2, none⟩) (.inr rfl) _).drew).setCell (p := ⟨fb, 0, none⟩) (.inl rfl) _
  refine ⟨hc, (heap_setCell_other _ _ _ _ (Ne.symm hfd)).trans (blk_set h.blk 2 _), ?_, ?_⟩
  · have h1 : ((w.setCell ⟨db, 2, none⟩ (.int .i64 (u : Int))).drew).heap[fb]? = some (.cells #[.slice A L cap, .int .i64 (f.sure : Int), .bool f.ever] 64 (0, 0)) := (heap_setCell_other w _ _ _ hfd).trans hfa.blk
    exact (blk_set h1 0 _).trans rfl
  · refine hc.own ?_ (fun b hb hM => ?_)
    · have hr := hfa.row
      rw [show bvs (f.b.take m) = (bvs f.b).take m by simp [bvs]]
      cases A with
      | none =>
        rcases hr.2 with ⟨e1, e2⟩ | ⟨g, cap', cur, e1, _⟩
        · simp only [Value.slice.injEq] at e1
          obtain ⟨_, e3, e4⟩ := e1
          obtain rfl : m = 0 := by omega
          rw [e4]
          exact World.ownsRow_nil _ _ _ _
        · cases e1
      | some p => exact own_cut (hL ▸ hr) (by simp) hm
    · have hb' : ro b = .row s := hfa.rrow b (by rw [← hb]; cases A <;> rfl)
      rcases hM with e | e
      · rw [e, hfa.rfb] at hb'; cases hb'
      · rw [e, h.rdb] at hb'; cases hb'
end Go.Proofs.Ytfgbaigpmhnoaaa
