/- disk: rows of calls that are written out. -/
import Derived.Test.YtfgbaigpmhnoaaaDskKb
import Derived.Test.YtfgbaigpmhnoaaaInv
set_option linter.unusedVariables false
set_option linter.unusedSimpArgs false
namespace Go.Proofs.Ytfgbaigpmhnoaaa
open Go.RowKit Go.BigFrame Go.Maps
open Dsk (Fl St Ok get put drop used)

theorem RB.more {w : World} {B B' : Nat} {v : Value} {l : List Nat} (h : RB w B v l) (hb : B ≤ B') : RB w B' v l := by
  obtain ⟨A, cap, e, h1, h2, h3, h4, h5⟩ := h
  exact ⟨A, cap, e, h1, h2, h3, h4.more hb, h5⟩
theorem RInt.more {w : World} {B B' : Nat} {v : Value} {ks : List Int} (h : RInt w B v ks) (hb : B ≤ B') : RInt w B' v ks := by
  obtain ⟨A, cap, e, h1, h2, h3⟩ := h
  exact ⟨A, cap, e, h1, h2, h3.weak fun b hq => Nat.lt_of_lt_of_le hq hb⟩
theorem ClOk.more {w : World} {B B' : Nat} {x : Cl} (h : ClOk w B x) (hb : B ≤ B') : ClOk w B' x := ⟨h.kind, h.name, h.to, h.b.more hb, h.n, h.ks.more hb⟩
theorem Calls6.more {w : World} {B B' : Nat} {LA : Option Addr} {ln : Nat} {x : Nat → Cl} (h : Calls6 w B LA ln x) (hb : B ≤ B') : Calls6 w B' LA ln x := fun h0 => by
  obtain ⟨ad, e, hl, hi⟩ := h h0
  exact ⟨ad, e, Nat.lt_of_lt_of_le hl hb, fun i hlt => ⟨(hi i hlt).1.more hb, (hi i hlt).2⟩⟩
theorem RB.nil (w : World) (B : Nat) : RB w B (.slice none 0 0) [] := ⟨none, 0, rfl, Nat.le_refl _, by decide, fun _ => rfl, fun h => absurd h (by simp), fun x h => by simp at h⟩
theorem RInt.nil (w : World) (B : Nat) : RInt w B (.slice none 0 0) [] := ⟨none, 0, rfl, Nat.le_refl _, by decide, fun j hj => by simp at hj⟩
theorem rb_blk {w : World} {g : Nat} {cs : Array Value} {l : List Nat} (h : w.heap[g]? = some (.cells cs 5 (0, 0))) (hc : cs = (bvs l).toArray) (hl : ∀ x ∈ l, x < 256) (hn : l.length ≤ maxLen) : RB w w.heap.size (.slice (some ⟨g, 0, none⟩) l.length l.length) l := by
  refine ⟨_, _, rfl, Nat.le_refl _, hn, (fun h => by cases h), fun _ => ⟨_, rfl, block_lt h, fun j hj => ?_⟩, hl⟩
  have e : (⟨g, 0, none⟩ : Addr).add j = ⟨g, j, none⟩ := by unfold Addr.add; by_cases h0 : j = 0 <;> simp [h0]
  rw [e, blk_cell h, hc]
  simp [bvs, hj, List.getD]
theorem rint_blk {w : World} {g : Nat} {cs : Array Value} {ks : List Int} (h : w.heap[g]? = some (.cells cs 3 (0, 0))) (hc : cs = (ks.map (Value.int .i64)).toArray) (hn : ks.length ≤ maxLen) : RInt w w.heap.size (.slice (some ⟨g, 0, none⟩) ks.length ks.length) ks := by
  refine ⟨_, _, rfl, Nat.le_refl _, hn, fun j hj => ⟨_, rfl, block_lt h, ?_⟩⟩
  have e : (⟨g, 0, none⟩ : Addr).add j = ⟨g, j, none⟩ := by unfold Addr.add; by_cases h0 : j = 0 <;> simp [h0]
  rw [e, blk_cell h, hc]
  simp [hj, List.getD]
theorem clV_get (xs : List Cl) (i : Nat) (h : i < xs.length) (j : Nat) (u : Value) (hu : (clV xs[i])[j]? = some u) : (xs.flatMap clV)[i * 6 + j]? = some u := by
  have hj : j < 6 := (List.getElem?_eq_some_iff.1 hu).1
  induction xs generalizing i with
  | nil => simp at h
  | cons e es ih =>
    show (clV e ++ es.flatMap clV)[i * 6 + j]? = _
    cases i with
    | zero => rw [List.getElem?_append_left (by show _ < 6; omega)]; simpa using hu
    | succ i =>
      rw [List.getElem?_append_right (by show 6 ≤ _; omega)]
      have e6 : (i + 1) * 6 + j - (clV e).length = i * 6 + j := by show _ - 6 = _; omega
      rw [e6]
      exact ih i (by simpa using h) (by simpa using hu)
theorem calls_blk {w : World} {g : Nat} {cs : Array Value} {T : TypeId} {xs : List Cl} (h : w.heap[g]? = some (.cells cs T (0, 0))) (hc : cs.toList = xs.flatMap clV) (hok : ∀ x ∈ xs, ClOk w w.heap.size x) : Calls6 w w.heap.size (some ⟨g, 0, none⟩) xs.length (fun i => xs.getD i default) := fun h0 => by
  refine ⟨_, rfl, block_lt h, fun i hi => ?_⟩
  have e : xs.getD i default = xs[i] := by simp [List.getD, hi]
  dsimp only
  rw [e]
  refine ⟨hok _ (List.getElem_mem _), fun j u hu => ?_⟩
  rw [add_at, blk_cell h, ← clV_get xs i hi j u hu, ← hc]
  simp
/-- Append of zeros. -/
theorem append_big {W0 w : World} {B db : Nat} {ro : Nat → Role} {S : St} (h : Ses W0 w B db ro S) (g n m o cap : Nat) (T : TypeId) (hg : w.heap[g]? = some (.cells (madeCells #[.int .u8 0] n) T (0, 0))) (hm : o + m ≤ n) (hmc : m ≤ cap) (hcm : cap ≤ maxLen) (hst : S.steps < 1000000000) (hsum : used S.fs + m ≤ 1000000000000) (hro : ro g = .none) (q : Nat) (c : Int) (S1 : St) (hc : c = appendC S nA (zer m)) (hS : S1 = appendS S nA (zer m)) :
    Calls Try.prog 17 #[.pointer (some ⟨db, 0, none⟩), .string nA, .slice (some ⟨g, o, none⟩) m cap] w (DoneR w B db ro S1 (.int .i64 c)) := by
  have hq := append_any w B db ro S nA (some ⟨g, o, none⟩) m cap (fun i => (zer m).getD i 0) h.disk (by decide) (zer_holds w g n m o T hg hm) (fun e => by cases e) hmc hcm (fun i => by rw [zer_get]; decide) h.size hst hsum (fun _ ad e => by cases e; exact hro)
  have e : listD (fun i => (zer m).getD i 0) m = zer m := by
    have := listD_get (zer m)
    rwa [zer_len] at this
  rw [e] at hq
  rw [hc, hS]
  exact hq
/-- A row that some law may be asked of. -/
def RowL (v : Value) (w : World) : Prop := ∃ x LA ln lcap, v = .slice LA ln lcap ∧ (ln ≤ lcap ∧ lcap ≤ maxLen) ∧ Calls6 w w.heap.size LA ln x
def RowC (v : Value) (w : World) : Prop := ∃ x : Cl, v = .agg (clV x).toArray ∧ ClOk w w.heap.size x
def RowB (v : Value) (w : World) : Prop := ∃ l, RB w w.heap.size v l
def RowI (v : Value) (w : World) : Prop := ∃ ks, RInt w w.heap.size v ks
def TxtV (v : Value) : Prop := ∃ s : ByteArray, v = .string s ∧ s.size ≤ maxLen
theorem RowL.below {v : Value} {w w' : World} (h : RowL v w) (hb : Below w.heap.size w w') : RowL v w' := by
  obtain ⟨x, LA, ln, lcap, e, hl, hc⟩ := h
  exact ⟨x, LA, ln, lcap, e, hl, (hc.below hb).more hb.size⟩
theorem RowC.below {v : Value} {w w' : World} (h : RowC v w) (hb : Below w.heap.size w w') : RowC v w' := by
  obtain ⟨x, e, hc⟩ := h
  exact ⟨x, e, (hc.below hb).more hb.size⟩
theorem RowB.below {v : Value} {w w' : World} (h : RowB v w) (hb : Below w.heap.size w w') : RowB v w' := by
  obtain ⟨l, hc⟩ := h
  exact ⟨l, (hc.below hb).more hb.size⟩
theorem RowI.below {v : Value} {w w' : World} (h : RowI v w) (hb : Below w.heap.size w w') : RowI v w' := by
  obtain ⟨l, hc⟩ := h
  exact ⟨l, (hc.below hb).more hb.size⟩
theorem RowC.mk {w : World} {k : Nat} {s t : Value} {n : Int} {bv kv : Value} (hk : k < 256) (hs : TxtV s) (ht : TxtV t) (hb : RowB bv w) (hn : (Lit.int .i64 n).wf = true) (hi : RowI kv w) : RowC (.agg #[.int .u8 (k : Int), s, t, bv, .int .i64 n, kv]) w := by
  obtain ⟨s, rfl, hs⟩ := hs
  obtain ⟨t, rfl, ht⟩ := ht
  obtain ⟨l, hb⟩ := hb
  obtain ⟨ks, hi⟩ := hi
  exact ⟨⟨k, s, t, l, bv, n, ks, kv⟩, rfl, hk, hs, ht, hb, hn, hi⟩
theorem RowB.nil (w : World) : RowB (.slice none 0 0) w := ⟨[], RB.nil _ _⟩
theorem RowI.nil (w : World) : RowI (.slice none 0 0) w := ⟨[], RInt.nil _ _⟩
theorem TxtV.lit (s : ByteArray) (h : s.size ≤ maxLen) : TxtV (.string s) := ⟨s, rfl, h⟩
/-- What a slot of the long row's region may hold, by its kind. -/
def Rk (s : ByteArray) (k : Nat) (v : Value) (w : World) : Prop := match k with
  | 0 => v = .string s
  | 1 => TxtV v
  | 2 => RowC v w
  | 3 => RowB v w
  | 4 => RowI v w
  | 5 => RowL v w
  | _ => True
theorem Rk_below {s : ByteArray} {k : Nat} {v : Value} {w w' : World} (h : Rk s k v w) (hb : Below w.heap.size w w') : Rk s k v w' := by
  unfold Rk at *
  split at h
  · exact h
  · exact h
  · exact RowC.below h hb
  · exact RowB.below h hb
  · exact RowI.below h hb
  · exact RowL.below h hb
  · exact trivial
def kinds29 : List Nat := [0, 2, 2, 0, 1, 3, 2, 0, 1, 0, 2, 2, 0, 1, 2, 0, 1, 2, 3, 2, 2, 2, 2, 2, 4, 2, 3, 2, 2, 2, 2, 2, 4, 2, 2, 2, 3, 2, 2, 3, 2, 5, 5]
theorem slice_tail (s : ByteArray) (h : 1 ≤ s.size) (w : World) : ((do let x ← Instr.sliceAt 9 (.string s) (some (.int .i64 1)) none none; pure (Next.value x)) : Sem Next).run Try.prog w = .ok (.value (.string (s.extract 1 s.size))) w := by
  have e1 : Try.prog.underlying 9 = some .string := by kernel_rfl
  have e2 : (Instr.sliceAt 9 (.string s) (some (.int .i64 1)) none none).run Try.prog w = .ok (.string (s.extract 1 s.size)) w := (run_sliceAt_string w _ _ _ _ _ e1).trans (run_slice_string_l w _ s e1 .i64 1 (by decide) (by omega))
  simp [Sem.run_bind, e2, Result.andThen]
end Go.Proofs.Ytfgbaigpmhnoaaa
