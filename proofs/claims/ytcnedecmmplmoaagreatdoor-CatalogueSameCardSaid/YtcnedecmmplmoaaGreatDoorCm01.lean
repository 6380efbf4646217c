/- Small general laws: rows of bytes in memory, texts of bytes, arrays, slices that came in. -/
import Derived.WalkKit
import Derived.WalkSpells
import Derived.WalkLawsBesides
import Derived.Lib.Hide
import Derived.BigQuiet
import Derived.Deep.QuietTactic
import Derived.IntWalk
import Derived.Laws.Tables
import Derived.Laws.Rows
import Derived.Deep.Cut
import Derived.OwnWalk
import Derived.WalkSmall
import Derived.Below
import Derived.ChangeKeysEq
import Derived.StillTailTactics
import Derived.Outline
import Derived.Laws.OwnMore
import Derived.Deep.AppendLies
import Derived.Deep.OwnRows
import Derived.Laws.AppendOwnNone
import Derived.Maps.AppendAt
import Derived.Laws.IdiomStrings
import Derived.Deep.RegionHeld3
import Derived.ProofKit
import Derived.OpenShut
import Derived.ShutString
import Derived.ChangeOld
import Derived.Deep.Slices
import Derived.Lib.ConvBytes
import Derived.Lib.SlBytesConst
import Derived.Lib.SmallJoins
import Derived.Lib.IndexMore
import Derived.Lib.ItoaNum
set_option linter.unusedVariables false
set_option linter.unusedSimpArgs false
namespace Go.Proofs.YtcnedecmmplmoaaGreatDoor
open Go.ChangeShapes Go.WideShapes Go.ChangeAt Go.RowKit

theorem ret_bool {a b : Bool} (h : a = b) : Ending.returned (.bool a) = .returned (.bool b) := by rw [h]
theorem ret_int {k : IntKind} {a b : Int} (h : a = b) : Ending.returned (.int k a) = .returned (.int k b) := by rw [h]
theorem val_int {k : IntKind} {a b : Int} (h : a = b) : Value.int k a = Value.int k b := by rw [h]
/-- Arrays of bytes and of words. -/
def cells (d : Nat → Nat) (n : Nat) : List Value := (List.range n).map fun i => Value.int .u8 (d i : Int)
def digA (d : Nat → Nat) (n : Nat) : Array Value := (cells d n).toArray
theorem digA_size (d : Nat → Nat) (n : Nat) : (digA d n).size = n := by simp [digA, cells]
theorem digA_get (d : Nat → Nat) (n i : Nat) (h : i < n) : (digA d n)[i]? = some (.int .u8 (d i : Int)) := by
  simp [digA, cells, h]
theorem cells_succ (d : Nat → Nat) (k : Nat) : cells d (k + 1) = cells d k ++ [Value.int .u8 (d k : Int)] := by simp [cells, List.range_succ]
theorem cells_len (d : Nat → Nat) (k : Nat) : (cells d k).length = k := by simp [cells]
theorem cells_get (d : Nat → Nat) (n i : Nat) (h : i < n) : (cells d n)[i]? = some (.int .u8 (d i : Int)) := by simp [cells, h]
theorem run_index_row {P : Program} (w : World) (T e : TypeId) (n : Nat) (q : IntKind) (hT : P.underlying T = some (.array n e)) (he : P.underlying e = some (.int q)) (h1 : P.cellsOf e = 1) (cs : Array Value) (i : Nat) (v : Value) (hi : i < n) (hv : cs[i]? = some v) :
    (Instr.index T (.agg cs) (.int .i64 (i : Int))).run P w = .ok v w := by
  have hp : P.plainKey e = true := by simp [Program.plainKey, he]
  obtain ⟨i0, hi0⟩ := info_of_underlying he
  have hlt : (0 : Int) ≤ (i : Int) ∧ (i : Int) < (n : Int) := by omega
  simp only [Instr.index, asIntOf, Sem.run_bind, Sem.run_pure, Result.andThen_ok, run_underlying hT, if_pos hlt, run_sizeOf w hi0, h1, Nat.mul_one, Int.toNat_natCast]
  exact run_part_plain w hp hv
theorem row_ok (l : List Value) (h : ∀ v ∈ l, v.oneCell' = true) : l.toArray.all (·.oneCell') = true := by
  rw [Array.all_eq_true_iff_forall_mem]
  intro v hv
  exact h v (by simpa using hv)
theorem digA_ok (d : Nat → Nat) (n : Nat) : (digA d n).all (·.oneCell') = true := row_ok _ fun v hv => by
  simp [cells] at hv
  obtain ⟨i, _, rfl⟩ := hv
  rfl
theorem digA_congr (d e : Nat → Nat) (n : Nat) (h : ∀ i, i < n → d i = e i) : digA d n = digA e n := by
  unfold digA cells
  exact congrArg List.toArray (List.map_congr_left fun i hi => by rw [h i (by simpa using hi)])
theorem digA_set (c e : Nat → Nat) (n a : Nat) (h1 : ∀ i, i < n → i ≠ a → c i = e i) : (digA c n).setIfInBounds a (.int .u8 (e a : Int)) = digA e n := by
  apply Array.ext
  · simp [digA_size]
  · intro i h2 h3
    have hi : i < n := by simpa [digA_size] using h3
    apply Option.some.inj
    rw [← Array.getElem?_eq_getElem, ← Array.getElem?_eq_getElem, Array.getElem?_setIfInBounds, digA_get _ _ _ hi, digA_get _ _ _ hi]
    by_cases h : a = i
    · subst h; simp [digA_size, hi]
    · rw [if_neg h, h1 i hi (fun e => h e.symm)]
theorem below_setRow {B g : Nat} {W w1 : World} (h : Below B W w1) (hg : B ≤ g) (cs : Array Value) : Below B W (w1.setRow g cs) := by
  refine ⟨h.os, h.tape, h.output, by simp; exact h.size, fun k hk => ?_⟩
  rw [setRow_other w1 g k cs (by omega)]
  exact h.block k hk
theorem below_step {B : Nat} {w w1 w2 : World} (h : Below B w w1) (h2 : Below w1.heap.size w1 w2) (hB : B ≤ w1.heap.size) : Below B w w2 := h.trans (h2.mono hB)
theorem below_drewN {B : Nat} {w w1 : World} (h : Below B w w1) (n : Nat) : Below B w (w1.drewN n) := by
  induction n with
  | zero => exact h
  | succ n ih => exact ih.drew
/-- Two, three new blocks. -/
theorem rows2 (w : World) (A B : Obj) : ∃ w1, w1 = (w.alloc A).alloc B ∧ w1.heap[w.heap.size]? = some A ∧ w1.heap[w.heap.size + 1]? = some B ∧ Below w.heap.size w w1 ∧ w1.heap.size = w.heap.size + 2 :=
  ⟨_, rfl, heap_alloc2_old w A B, heap_alloc2_new w A B, ((Below.refl _ _).alloc (Nat.le_refl _) _).alloc (by simp) _, by simp⟩
theorem old_block (w : World) (o : Obj) (i : Nat) (h : i < w.heap.size) : (w.alloc o).heap[i]? = w.heap[i]? := by
  show (w.heap.push o)[i]? = w.heap[i]?
  rw [Array.getElem?_push, if_neg (Nat.ne_of_lt h)]
theorem rows3 (w : World) (A B C : Obj) : ∃ w1, w1 = ((w.alloc A).alloc B).alloc C ∧ w1.heap[w.heap.size]? = some A ∧ w1.heap[w.heap.size + 1]? = some B ∧ w1.heap[w.heap.size + 2]? = some C ∧ Below w.heap.size w w1 ∧ w1.heap.size = w.heap.size + 3 := by
  obtain ⟨w1, e, h1, h2, hb, hz⟩ := rows2 w A B
  rw [← e]
  refine ⟨_, rfl, (old_block _ _ _ (by omega)).trans h1, (old_block _ _ _ (by omega)).trans h2, ?_, hb.alloc (by omega) _, by simp [hz]⟩
  have := heap_alloc_new w1 C
  rwa [hz] at this
theorem row_put (B0 : Nat) (w w2 : World) (A A' : Array Value) (t : TypeId) (hb : Below B0 w w2) (hB : B0 ≤ w2.heap.size) : ∃ w3, w3 = (w2.alloc (.cells A t)).setRow w2.heap.size A' ∧ w3.heap[w2.heap.size]? = some (.cells A' t (0, 0)) ∧ (∀ i, i < w2.heap.size → w3.heap[i]? = w2.heap[i]?) ∧ Below B0 w w3 ∧ w3.heap.size = w2.heap.size + 1 := by
  refine ⟨_, rfl, setRow_heap _ _ _ _ _ _ (heap_alloc_new w2 (.cells A t)), fun i hi => ?_, below_setRow (hb.alloc hB _) hB _, by simp⟩
  rw [setRow_other _ _ _ _ (by omega)]
  exact old_block _ _ _ hi
theorem add_block (a : Addr) (n : Nat) : (a.add n).block = a.block := by unfold Addr.add; split <;> rfl
theorem add_zero (a : Addr) : a.add 0 = a := by unfold Addr.add; simp
theorem add_two (a : Addr) (i j : Nat) : (a.add i).add j = a.add (i + j) := by
  unfold Addr.add
  by_cases hi : i = 0 <;> by_cases hj : j = 0 <;> simp [hi, hj, Nat.add_assoc]
/-- A slice of n bytes d, that lies below block B. -/
def Holds (w : World) (B : Nat) (A : Option Addr) (n : Nat) (d : Nat → Nat) : Prop :=
  0 < n → ∃ ad, A = some ad ∧ ad.block < B ∧ ∀ j, j < n → w.cell? (ad.add j) = some (.int .u8 (d j : Int))
theorem Holds.below {w w' : World} {B : Nat} {A : Option Addr} {n : Nat} {d : Nat → Nat} (h : Holds w B A n d) (hb : Below B w w') : Holds w' B A n d := fun hn => by
  obtain ⟨ad, e, hl, hc⟩ := h hn
  exact ⟨ad, e, hl, fun j hj => (hb.cell (by rw [add_block]; exact hl)).trans (hc j hj)⟩
theorem Holds.more {w : World} {B B' : Nat} {A : Option Addr} {n : Nat} {d : Nat → Nat} (h : Holds w B A n d) (hb : B ≤ B') : Holds w B' A n d := fun hn => by
  obtain ⟨ad, e, hl, hc⟩ := h hn
  exact ⟨ad, e, by omega, hc⟩
theorem Holds.setRow {w : World} {B g : Nat} {A : Option Addr} {n : Nat} {d : Nat → Nat} (h : Holds w B A n d) (hg : B ≤ g) (cs : Array Value) : Holds (w.setRow g cs) B A n d :=
  h.below ⟨rfl, rfl, rfl, by simp, fun i hi => setRow_other _ _ _ _ (by omega)⟩
theorem block_lt {w : World} {g : Nat} {o : Obj} (h : w.heap[g]? = some o) : g < w.heap.size := (Array.getElem?_eq_some_iff.1 h).1
theorem Holds.congr {w : World} {B : Nat} {A : Option Addr} {n : Nat} {d e : Nat → Nat} (h : Holds w B A n d) (he : ∀ j, j < n → d j = e j) : Holds w B A n e := fun hn => by
  obtain ⟨ad, e', hl, hc⟩ := h hn
  exact ⟨ad, e', hl, fun j hj => by rw [hc j hj, he j hj]⟩
theorem run_loadVar_cells {P : Program} (w : World) (p : Addr) (ty : TypeId) (cs : Array Value) (d : TypeDesc) (hc : ∀ j v, cs[j]? = some v → w.cell? (p.add j) = some v)
    (hu : P.underlying ty = some d) (hd : (match d with | .struct _ | .array _ _ => true | _ => false) = true) (hi : (P.info? ty).map (·.size) = some cs.size) :
    (loadVar ty p).run P w = .ok (.agg cs) w := by
  have hl : (loadCells p cs.toList.length).run P w = .ok cs.toList.toArray w :=
    run_loadCells_list (P := P) w p cs.toList (fun j v hv => hc j v (by simpa using hv))
  cases hq : P.info? ty with
  | none => simp [hq] at hi
  | some i =>
    have hs : i.size = cs.size := by simpa [hq] using hi
    have hagg : (isAgg ty).run P w = .ok true w := by
      unfold isAgg
      rw [Sem.run_bind, run_underlying hu w]
      cases d <;> simp_all
    simp only [Array.length_toList, Array.toArray_toList] at hl
    simp [loadVar, Sem.run_bind, hagg, sizeOf, typeInfo, hq, hs, hl]
theorem still_load {P : Program} {ops : Array Oper} {o : Oper} {a : Act} {w : World} {K : Act → Prop} (ty : TypeId) (x : Operand) (ho : o.op = .load ty x) (hg : o.guard = none)
    (p : Addr) (hx : a.eval x = .pointer (some p)) (cs : Array Value) (d : TypeDesc) (hc : ∀ j v, cs[j]? = some v → w.cell? (p.add j) = some v)
    (hu : P.underlying ty = some d) (hd : (match d with | .struct _ | .array _ _ => true | _ => false) = true) (hi : (P.info? ty).map (·.size) = some cs.size)
    (h : K (a.put o.dst (.agg cs))) : if Region.wanted o (yielded ops a.tmps) = true then o.still P a w K else K (a.put o.dst undef) := by
  rw [if_pos (by simp [Region.wanted, hg])]
  unfold Oper.still execOp
  simp only [ho, hx, Instr.loadAt, Instr.sureAddr, Sem.run_bind, Sem.run_pure, Result.andThen_ok, run_loadVar_cells w p ty cs d hc hu hd hi]
  rw [Oper.stillUpon_value]
  exact h
theorem wpList_load_cells {P : Program} {ops : Array Oper} {rest : List Oper} {o : Oper} {a : Act} {w : World} {Q : Exit → Act → World → Prop} (hgd : o.guard = none) (ty : TypeId) (x : Operand) (ho : o.op = .load ty x)
    (p : Addr) (hx : a.eval x = .pointer (some p)) (cs : Array Value) (d : TypeDesc) (hc : ∀ j v, cs[j]? = some v → w.cell? (p.add j) = some v)
    (hu : P.underlying ty = some d) (hd : (match d with | .struct _ | .array _ _ => true | _ => false) = true) (hi : (P.info? ty).map (·.size) = some cs.size)
    (h : wpList P ops Q rest (a.put o.dst (.agg cs)) w) : wpList P ops Q (o :: rest) a w :=
  wpList_plain hgd fun _ hK => by
    unfold Oper.wp execOp
    simp only [ho, hx, Instr.loadAt, Instr.sureAddr, Sem.run_bind, Sem.run_pure, Result.andThen_ok, run_loadVar_cells w p ty cs d hc hu hd hi]
    exact hK _ _ h
theorem run_arrayAt {P : Program} (w : World) (T e : TypeId) (n : Nat) (A : Option Addr) (len cap : Nat) (hT : P.underlying T = some (.array n e)) (h : n ≤ len) : (Instr.arrayAt T (.slice A len cap)).run P w = .ok (.pointer A) w := by
  have hlt : ¬ len < n := by omega
  simp [Instr.arrayAt, run_underlying hT, hlt]
theorem results_cell_tmp {P : Program} {fn : Func} {p q : Tmp} {ty : TypeId} (h : fn.results = #[.cell p ty, .tmp q]) (tmps : Array Value) (w : World) (g : Nat) (t : TypeId) (cs : Array Value) (fr : Nat × Nat) (d : TypeDesc) (v : Value)
    (hp : tmps.getD p undef = .pointer (some ⟨g, 0, none⟩)) (hq : tmps.getD q undef = v) (hg : w.heap[g]? = some (.cells cs t fr))
    (hu : P.underlying ty = some d) (hd : (match d with | .struct _ | .array _ _ => true | _ => false) = true) (hi : (P.info? ty).map (·.size) = some cs.size) :
    (results fn tmps).run P w = .ok (.tuple #[.agg cs, v]) w := by
  have hp' : tmps[p]?.getD undef = .pointer (some ⟨g, 0, none⟩) := by simpa using hp
  have hq' : tmps[q]?.getD undef = v := by simpa using hq
  simp [results, h, hp', hq', asAddr, run_loadVar_row w g t ty cs fr d hg hu hd hi]
theorem digA_cells {w : World} {p : Addr} {n : Nat} {d : Nat → Nat} (h : ∀ j, j < n → w.cell? (p.add j) = some (.int .u8 (d j : Int))) : ∀ j v, (digA d n)[j]? = some v → w.cell? (p.add j) = some v := by
  intro j v hv
  have hj : j < n := by
    have := (Array.getElem?_eq_some_iff.1 hv).1
    simpa [digA_size] using this
  rw [digA_get _ _ _ hj] at hv
  rw [h j hj, hv]
theorem row_cells {w : World} {g : Nat} {T : TypeId} {cs : Array Value} (h : w.heap[g]? = some (.cells cs T (0, 0))) : ∀ j v, cs[j]? = some v → w.cell? ((⟨g, 0, none⟩ : Addr).add j) = some v := by
  intro j v hv
  have hadd : (⟨g, 0, none⟩ : Addr).add j = ⟨g, j, none⟩ := by unfold Addr.add; split <;> simp_all
  rw [hadd, cell_of_row _ _ _ _ _ _ h, hv]
theorem made_zero (n : Nat) : madeCells #[Value.int .u8 0] n = digA (fun _ => 0) n := by
  apply Array.toList_inj.1
  rw [toList_madeCells_one]
  simp [digA, cells, List.map_const']
theorem wpList_append_holds {P : Program} {w : World} {ops : Array Oper} {rest : List Oper} {o : Oper} {a : Act} {Q : Exit → Act → World → Prop} (hgd : o.guard = none) (s x : Operand) (t : TypeId)
    (ho : o.op = .call { callee := .builtin .append, args := #[s, x], argTypes := #[t, t] })
    (base : Nat) (e : TypeId) (i : TypeInfo) (ht : P.underlying t = some (.slice e)) (hi : P.info? e = some i) (hz : i.zero = some (.int .u8 0)) (hs1 : i.size = 1) (hb1 : i.bytes = 1)
    (v : Value) (n : Nat) (xs : List Value) (hs : a.eval s = v) (hown : w.ownsRow base e 1 v n xs) (B : Nat) (A : Option Addr) (m c : Nat) (d : Nat → Nat) (hx : a.eval x = .slice A m c) (hr : Holds w B A m d) (hA : A = none → c = 0) (hmc : m ≤ c)
    (h63 : n + m ≤ maxLen) (hbytes : n + m ≤ 140737488355328) (hbase : base ≤ w.heap.size)
    (h : ∀ v' w', w'.ownsRow base e 1 v' (n + m) (xs ++ cells d m) → w.grownBy w' v.ownBlock → wpList P ops Q rest (a.put o.dst v') w') : wpList P ops Q (o :: rest) a w := by
  cases A with
  | none =>
    have hc := hA rfl
    subst hc
    obtain rfl : m = 0 := by omega
    refine wpList_append_own_none hgd s x t ho base e i 1 ht hi v n xs hs hown hx ?_
    exact h v w (by simpa [cells] using hown) (World.grownBy.refl w _)
  | some ad =>
    refine wpList_append_own w hgd s x t ho base e i (.int .u8 0) 1 1 ht hi hz hs1 hb1 rfl (by decide) v n xs hs hown ad m c (cells d m) hx (by rw [cells_len]; omega) ?_ ?_ h63 (by omega) hbase fun v' w' h1 h2 _ => h v' w' h1 h2
    · intro j u hu
      have hj : j < m := by
        have := (List.getElem?_eq_some_iff.1 hu).1
        rwa [cells_len] at this
      obtain ⟨ad', e', _, hc⟩ := hr (by omega)
      cases e'
      rw [cells_get _ _ _ hj] at hu
      rw [hc j hj, hu]
    · intro u hu
      simp [cells] at hu
      obtain ⟨_, _, rfl⟩ := hu
      rfl
theorem own_below {w w' : World} {base size n B : Nat} {e : TypeId} {v : Value} {xs : List Value} (h : w.ownsRow base e size v n xs) (hb : Below B w w') (hB : w.heap.size ≤ B) : w'.ownsRow base e size v n xs := by
  obtain ⟨hl, h0 | ⟨g, cap, cur, rfl, hg, hgg, h1, h2, h3, h4⟩⟩ := h
  · exact ⟨hl, .inl h0⟩
  · exact ⟨hl, .inr ⟨g, cap, cur, rfl, hg, (hb.block g (Nat.lt_of_lt_of_le (block_lt hgg) hB)).trans hgg, h1, h2, h3, h4⟩⟩
theorem own_holds {w : World} {base n : Nat} {e : TypeId} {v : Value} {d : Nat → Nat} (h : w.ownsRow base e 1 v n (cells d n)) (hn : 0 < n) :
    ∃ g cap, v = .slice (some ⟨g, 0, none⟩) n cap ∧ base ≤ g ∧ g < w.heap.size ∧ n ≤ cap ∧ cap ≤ maxLen ∧ Holds w w.heap.size (some ⟨g, 0, none⟩) n d := by
  obtain ⟨hl, ⟨rfl, h0⟩ | ⟨g, cap, cur, rfl, hg, hgg, h1, h2, h3, h4⟩⟩ := h
  · omega
  · refine ⟨g, cap, rfl, hg, block_lt hgg, h1, h2, fun _ => ⟨_, rfl, block_lt hgg, fun j hj => ?_⟩⟩
    have hadd : (⟨g, 0, none⟩ : Addr).add j = ⟨g, j, none⟩ := by unfold Addr.add; split <;> simp_all
    rw [hadd, cell_of_row _ _ _ _ _ _ hgg]
    have := cells_get d n j hj
    rw [← h4, List.getElem?_take_of_lt (by omega)] at this
    simpa using this
theorem cells_append (a b : Nat → Nat) (m k : Nat) (e : Nat → Nat) (h1 : ∀ i, i < m → e i = a i) (h2 : ∀ i, i < k → e (m + i) = b i) : cells a m ++ cells b k = cells e (m + k) := by
  apply List.ext_getElem?
  intro i
  by_cases h : i < m
  · rw [List.getElem?_append_left (by rw [cells_len]; exact h), cells_get _ _ _ h, cells_get _ _ _ (by omega), h1 i h]
  · rw [List.getElem?_append_right (by rw [cells_len]; omega), cells_len]
    by_cases hk : i < m + k
    · rw [cells_get _ _ _ (by omega), cells_get _ _ _ hk, ← h2 _ (by omega : i - m < k), show m + (i - m) = i from by omega]
    · rw [List.getElem?_eq_none (by rw [cells_len]; omega), List.getElem?_eq_none (by rw [cells_len]; omega)]
theorem kept {w w' : World} {row : Option Nat} {g : Nat} {o : Obj} (h : w.heap[g]? = some o) (hb : w.grownBy w' row) (hg : some g ≠ row) : w'.heap[g]? = some o := (hb.block g (block_lt h) hg).trans h
def txt (d : Nat → Nat) (n : Nat) : List UInt8 := (List.range n).map fun i => UInt8.ofNat (d i)
theorem txt_len (d : Nat → Nat) (n : Nat) : (txt d n).length = n := by simp [txt]
theorem txt_cells (d : Nat → Nat) (n : Nat) (hd : ∀ i, d i < 256) : cells d n = (txt d n).map fun c => Value.int .u8 (c.toNat : Int) := by
  simp only [cells, txt, List.map_map]
  refine List.map_congr_left fun i _ => ?_
  have := hd i
  simp only [Function.comp, UInt8.toNat_ofNat']
  congr 2
  omega
def strOf (l : List UInt8) : ByteArray := ⟨l.toArray⟩
theorem strOf_size (l : List UInt8) : (strOf l).size = l.length := by simp [strOf, ByteArray.size]
theorem convert_own {P : Program} {wr : World} {base : Nat} {E src dst : TypeId} {v : Value} {l : List UInt8} (hown : wr.ownsRow base E 1 v l.length (l.map fun c => Value.int .u8 (c.toNat : Int)))
    (hs : P.underlying src = some (.slice E)) (he : P.underlying E = some (.int .u8)) (hd : P.underlying dst = some .string) :
    (convert src dst v).run P wr = .ok (.string (strOf l)) wr := by
  obtain ⟨hl, ⟨rfl, h0⟩ | ⟨g, cap, cur, rfl, hg, hgg, hn, hcm, hcs, htk⟩⟩ := hown
  · have : l = [] := List.eq_nil_of_length_eq_zero h0
    subst this
    rw [run_convert_bytes_string wr src dst E none 0 0 hs he hd]
    simp [Conv.bytesToString, strOf]
    rfl
  · refine run_convert_bytes_back wr src dst E ⟨g, 0, none⟩ cap l hs he hd fun j hj => ?_
    have h1 : wr.cell? ((⟨g, 0, none⟩ : Addr).add j) = cur[j]? := by
      unfold Addr.add
      split
      · rename_i h; subst h; simp [World.cell?, hgg]
      · simp [World.cell?, hgg]
    have : (l.map fun c => Value.int .u8 (c.toNat : Int))[j]? = some (.int .u8 (l[j].toNat : Int)) := by simp [List.getElem?_eq_getElem hj]
    rw [← htk, List.getElem?_take_of_lt (by omega)] at this
    rw [h1]
    simpa using this
def eqRun (P : Program) (d : Nat) (e : TypeId) (xs ys : Array Value) : List Nat → Sem Bool
  | [] => pure true
  | i :: l => do
    let a ← part e xs i
    let b ← part e ys i
    let r ← Op.equalIn d e a b
    if (!r) = true then pure false else eqRun P d e xs ys l
theorem run_equalIn_array {P : Program} (w : World) (d n : Nat) (T e : TypeId) (xs ys : Array Value) (hT : P.underlying T = some (.array n e)) {i : TypeInfo} (hi : P.info? e = some i) (h1 : P.cellsOf e = 1) :
    (Op.equalIn (d + 1) T (.agg xs) (.agg ys)).run P w = (eqRun P d e xs ys (List.range' 0 n)).run P w := by
  simp only [Op.equalIn, Sem.run_bind, run_underlying hT, Result.andThen_ok, run_sizeOf w hi, h1, Nat.mul_one]
  rw [Std.Legacy.Range.forIn_eq_forIn_range']
  simp only [Std.Legacy.Range.size, Nat.sub_zero, Nat.add_sub_cancel, Nat.div_one]
  clear hT
  generalize List.range' 0 n = l
  induction l generalizing w with
  | nil => simp [eqRun]
  | cons j l ih =>
    simp only [List.forIn_cons, eqRun, Sem.run_bind, Sem.run_ite]
    generalize (part e xs j).run P w = r1
    cases r1 with
    | ok a w1 =>
      simp only [Result.andThen_ok]
      generalize (part e ys j).run P w1 = r2
      cases r2 with
      | ok b w2 =>
        simp only [Result.andThen_ok]
        generalize (Op.equalIn d e a b).run P w2 = r3
        cases r3 with
        | ok r w3 =>
          cases r
          · simp only [Result.andThen_ok, Bool.not_false, if_true, Sem.run_pure]
          · simp only [Result.andThen_ok, Bool.not_true, Bool.false_eq_true, if_false, Sem.run_pure]
            exact ih w3
        | halt x w3 => simp [Result.andThen]
      | halt x w2 => simp [Result.andThen]
    | halt x w1 => simp [Result.andThen]
theorem run_eqRun_int {P : Program} (w : World) (d : Nat) (e : TypeId) (k q : IntKind) (he : P.underlying e = some (.int q)) (f g : Nat → Int) (xs ys : Array Value) :
    ∀ l : List Nat, (∀ i ∈ l, xs[i]? = some (.int k (f i)) ∧ ys[i]? = some (.int k (g i))) → (eqRun P (d + 1) e xs ys l).run P w = .ok (l.all fun i => f i == g i) w
  | [], _ => by simp [eqRun]
  | i :: l, h => by
    have hp : P.plainKey e = true := by simp [Program.plainKey, he]
    obtain ⟨hx, hy⟩ := h i (by simp)
    simp only [eqRun, Sem.run_bind, run_part_plain w hp hx, run_part_plain w hp hy, Result.andThen_ok, run_equalIn_int w d e k q (f i) (g i) he, Sem.run_ite]
    rw [run_eqRun_int w d e k q he f g xs ys l fun j hj => h j (by simp [hj])]
    cases hfg : f i == g i <;> simp [hfg]
/-- Arrays of n numbers are the same just if all are. -/
theorem run_equal_ints {P : Program} (w : World) (d n : Nat) (T e : TypeId) (k q : IntKind) (f g : Nat → Int) (xs ys : Array Value) (hT : P.underlying T = some (.array n e)) (he : P.underlying e = some (.int q)) (h1 : P.cellsOf e = 1)
    (hx : ∀ i, i < n → xs[i]? = some (.int k (f i)) ∧ ys[i]? = some (.int k (g i))) :
    (Op.equalIn (d + 2) T (.agg xs) (.agg ys)).run P w = .ok ((List.range n).all fun i => f i == g i) w := by
  obtain ⟨i, hi⟩ := info_of_underlying he
  rw [run_equalIn_array w (d + 1) n T e xs ys hT hi h1, run_eqRun_int w d e k q he f g xs ys _ (fun i hi => hx i (by simpa [List.mem_range'] using hi)), List.range_eq_range']
def sameB (n : Nat) (f d : Nat → Nat) : Bool := (List.range n).all fun i => f i == d i
theorem sameB_of (n : Nat) (f g : Nat → Nat) (h : ∀ i, i < n → f i = g i) : sameB n f g = true := by
  unfold sameB
  rw [List.all_eq_true]
  intro i hi
  simp [h i (by simpa using hi)]
theorem wpList_load_row_g {P : Program} {ops : Array Oper} {rest : List Oper} {o : Oper} {a : Act} {w : World} {Q : Exit → Act → World → Prop} (hw : Region.wanted o (yielded ops a.tmps) = true) (ty : TypeId) (x : Operand) (ho : o.op = .load ty x)
    (g : Nat) (hx : a.eval x = .pointer (some ⟨g, 0, none⟩)) (t : TypeId) (cs : Array Value) (fr : Nat × Nat) (d : TypeDesc) (hg : w.heap[g]? = some (.cells cs t fr))
    (hu : P.underlying ty = some d) (hd : (match d with | .struct _ | .array _ _ => true | _ => false) = true) (hi : (P.info? ty).map (·.size) = some cs.size)
    (h : wpList P ops Q rest (a.put o.dst (.agg cs)) w) : wpList P ops Q (o :: rest) a w :=
  BigFrame.wpList_want hw fun _ hK => wp_load_row ty x ho g hx t cs fr d hg hu hd hi (hK _ _ h)
theorem str_ext {a b : ByteArray} (h : a.data.toList = b.data.toList) : a = b := by
  cases a; cases b; simp at h; rw [h]
theorem row_new (w : World) (o : Obj) : ∃ w1, w1 = w.alloc o ∧ w1.heap[w.heap.size]? = some o ∧ Below w.heap.size w w1 ∧ w1.heap.size = w.heap.size + 1 :=
  ⟨_, rfl, heap_alloc_new w _, (Below.refl _ _).alloc (Nat.le_refl _) _, by simp⟩
theorem one_cell {w : World} {b : Nat} {v : Value} (hc : w.cell? ⟨b, 0, none⟩ = some v) : ∀ j u, [v][j]? = some u → w.cell? ((⟨b, 0, none⟩ : Addr).add j) = some u := by
  intro j u hj
  match j, hj with
  | 0, hj => simp at hj; subst hj; simpa [Addr.add] using hc
theorem u8_one (x : Int) : ∀ u ∈ [Value.int .u8 x], u.oneCell' = true := by
  intro u hu; simp at hu; subst hu; rfl
theorem open_digest {H : Type} {enc : TypeId × Value → H} {P : Program} {w : World} {base : Nat} {sp : Nat → Bool} {held : Bool} {r : Reach} {b0 : Nat} {T e : TypeId} {n : Nat} {v : Value} {x : DataW H} {ps : List MemPlace}
    (hT : P.underlying T = some (.array n e)) (he : P.underlying e = some (.int .u8)) (h1 : P.cellsOf e = 1) (hn : P.cellsOf T = n)
    (hval : Value.okWide P w r b0 T v) (hd : DataW.Trod enc P w base sp held T v x ps) : ∃ d : Nat → Nat, (∀ i, d i < 256) ∧ v = .agg (digA d n) := by
  have hv : ∃ cs : Array Value, v = .agg cs ∧ cs.size = n := by
    simp only [Value.okWide, hT] at hval
    obtain ⟨cs, e1, e2, _⟩ := hval
    exact ⟨cs, e1, by rw [e2, hn]⟩
  obtain ⟨cs, rfl, hsz⟩ := hv
  obtain ⟨fuel, hf⟩ := hd
  obtain ⟨xs, m, _, _, _, hxl, hall⟩ := DataW.trod_array hT hf
  have hc : ∀ i, i < n → ∃ a : Nat, a < 256 ∧ cs[i]? = some (.int .u8 (a : Int)) := by
    intro i hi
    have hg := hall i hi
    rw [h1, Nat.mul_one] at hg
    have hx : xs[i]? = some xs[i] := List.getElem?_eq_getElem (by omega)
    rw [hx] at hg
    obtain ⟨a, ea, _, wa⟩ := DataW.trod_int he hg
    have hb := bounds_u8 wa
    refine ⟨a.toNat, by omega, ?_⟩
    have h0 := congrArg (fun l : List Value => l[0]?) ea
    simp [Value.cells] at h0
    rw [h0]
    congr 2
    omega
  refine ⟨fun i => if h : i < n then Classical.choose (hc i h) else 0, fun i => ?_, ?_⟩
  · dsimp only
    split
    · rename_i h; exact (Classical.choose_spec (hc i h)).1
    · omega
  · congr 1
    apply Array.ext
    · rw [digA_size, hsz]
    · intro i h2 h3
      have hi : i < n := by omega
      apply Option.some.inj
      rw [← Array.getElem?_eq_getElem, ← Array.getElem?_eq_getElem, digA_get _ _ _ hi]
      refine (Classical.choose_spec (hc i hi)).2.trans ?_
      simp [hi]
theorem open_byteslice {H : Type} {enc : TypeId × Value → H} {P : Program} {w : World} {base : Nat} {sp : Nat → Bool} {held : Bool} {r : Reach} {b0 : Nat} {T e : TypeId} {v : Value} {x : DataW H} {ps : List MemPlace}
    (hT : P.underlying T = some (.slice e)) (he : P.underlying e = some (.int .u8)) (h1 : P.cellsOf e = 1) (_lt : ∀ x ∈ ps, x.block < w.heap.size)
    (hval : Value.okWide P w r b0 T v) (hd : DataW.Trod enc P w base sp held T v x ps) : ∃ (d : Nat → Nat) (n cap : Nat) (A : Option Addr), (∀ i, d i < 256) ∧ n ≤ cap ∧ cap ≤ maxLen ∧ Holds w w.heap.size A n d ∧ (A = none → cap = 0) ∧ v = .slice A n cap := by
  obtain ⟨A, n, cap, rfl⟩ := okWide_slice hT hval
  obtain ⟨fuel, hf⟩ := hd
  rcases Go.Deep.open_slice1 hT h1 hf with ⟨hcs, _⟩ | ⟨a, len, cap', m, k, V, D, Pl, hcs, _, hl, hm, hmm, _, hel⟩
  · simp [Value.cells] at hcs
    obtain ⟨rfl, rfl, rfl⟩ := hcs
    exact ⟨fun _ => 0, 0, 0, none, fun _ => Nat.zero_lt_succ _, Nat.le_refl _, by decide, fun h => absurd h (by omega), fun _ => rfl, rfl⟩
  · simp [Value.cells] at hcs
    obtain ⟨rfl, rfl, rfl⟩ := hcs
    have hnm : n ≤ m := by rw [hmm]; split <;> omega
    have hc : ∀ i, i < n → ∃ b : Nat, b < 256 ∧ w.cell? (a.add i) = some (.int .u8 (b : Int)) := by
      intro i hi
      obtain ⟨h2, h3⟩ := hel i (by omega)
      obtain ⟨b, eb, _, wb⟩ := DataW.trod_int he h3
      have hb := bounds_u8 wb
      refine ⟨b.toNat, by omega, ?_⟩
      simp at eb
      rw [h2, eb]
      congr 2
      omega
    refine ⟨fun i => if h : i < n then Classical.choose (hc i h) else 0, n, cap, some a, fun i => ?_, hl, hm, fun hn => ⟨a, rfl, ?_, fun j hj => ?_⟩, (fun h => by cases h), rfl⟩
    · dsimp only
      split
      · rename_i h; exact (Classical.choose_spec (hc i h)).1
      · omega
    · obtain ⟨b, _, hb⟩ := hc 0 hn
      have := block_lt_of_cell hb
      rwa [add_block] at this
    · have := (Classical.choose_spec (hc j hj)).2
      rw [this]
      simp [hj]
theorem convert_holds {P : Program} {wr : World} {B n cap : Nat} {A : Option Addr} {E src dst : TypeId} {d : Nat → Nat} (hd : ∀ i, d i < 256) (hr : Holds wr B A n d) (hA : A = none → cap = 0) (hnc : n ≤ cap)
    (hs : P.underlying src = some (.slice E)) (he : P.underlying E = some (.int .u8)) (ht : P.underlying dst = some .string) :
    (convert src dst (.slice A n cap)).run P wr = .ok (.string (strOf (txt d n))) wr := by
  cases A with
  | none =>
    have := hA rfl
    obtain rfl : n = 0 := by omega
    rw [run_convert_bytes_string wr src dst E none 0 cap hs he ht]
    simp [Conv.bytesToString, strOf, txt]
    rfl
  | some a =>
    have h := run_convert_bytes_back wr src dst E a cap (txt d n) hs he ht (fun j hj => by
      rw [txt_len] at hj
      obtain ⟨ad, e, _, hc⟩ := hr (by omega)
      cases e
      rw [hc j hj]
      have h1 : (txt d n)[j]'(by rw [txt_len]; exact hj) = UInt8.ofNat (d j) := by simp [txt]
      rw [h1, UInt8.toNat_ofNat', Nat.mod_eq_of_lt (hd j)])
    rw [txt_len] at h
    exact h
theorem bytes_of_txt {P : Program} (w : World) (E src dst : TypeId) (d : Nat → Nat) (n : Nat) (hd : ∀ i, d i < 256) (hn : n ≤ maxLen) (hs : P.underlying src = some .string) (ht : P.underlying dst = some (.slice E)) (he : P.underlying E = some (.int .u8)) :
    ∃ cap w2, n ≤ cap ∧ cap ≤ maxLen ∧ (convert src dst (.string (strOf (txt d n)))).run P w = .ok (.slice (some ⟨w.heap.size, 0, none⟩) n cap) w2 ∧ Below w.heap.size w w2 ∧ Holds w2 w2.heap.size (some ⟨w.heap.size, 0, none⟩) n d ∧ w.heap.size < w2.heap.size := by
  have h := run_bytes_of_string (P := P) w src dst E (strOf (txt d n)) hs ht he
  have hz : (strOf (txt d n)).size = n := by rw [strOf_size, txt_len]
  rw [hz] at h
  refine ⟨_, _, grownCap_ge w n 0 E, grownCap_le_maxLen w n 0 E hn, h, ((Below.refl _ _).drew).alloc (Nat.le_refl _) _, fun h0 => ⟨_, rfl, by simp, fun j hj => ?_⟩, by simp⟩
  have hadd : (⟨w.heap.size, 0, none⟩ : Addr).add j = ⟨w.heap.size, j, none⟩ := by unfold Addr.add; split <;> simp_all
  rw [hadd]
  refine (cell_of_row _ w.heap.size j _ _ _ (heap_alloc_new w.drew _)).trans ?_
  unfold bytesRow
  have h1 : (strOf (txt d n)).data = (txt d n).toArray := rfl
  rw [h1, Array.getElem?_append_left (by simp [txt_len]; exact hj)]
  simp [txt, hj, Nat.mod_eq_of_lt (hd j)]
theorem own_slice {w : World} {base n : Nat} {e : TypeId} {v : Value} {d : Nat → Nat} (h : w.ownsRow base e 1 v n (cells d n)) :
    ∃ A cap, v = .slice A n cap ∧ n ≤ cap ∧ cap ≤ maxLen ∧ Holds w w.heap.size A n d ∧ (A = none → cap = 0) := by
  by_cases hn : 0 < n
  · obtain ⟨g, cap, rfl, _, _, h1, h2, h3⟩ := own_holds h hn
    exact ⟨_, cap, rfl, h1, h2, h3, fun h => by cases h⟩
  · obtain rfl : n = 0 := by omega
    obtain ⟨hl, ⟨rfl, h0⟩ | ⟨g, cap, cur, rfl, hg, hgg, h1, h2, h3, h4⟩⟩ := h
    · exact ⟨none, 0, rfl, Nat.le_refl _, by decide, fun h => absurd h (by omega), fun _ => rfl⟩
    · exact ⟨_, cap, rfl, h1, h2, fun h => absurd h (by omega), fun h => by cases h⟩
theorem holds_new (w : World) (T : TypeId) (d : Nat → Nat) (n : Nat) (fr : Nat × Nat) : Holds (w.alloc (.cells (digA d n) T fr)) (w.alloc (.cells (digA d n) T fr)).heap.size (some ⟨w.heap.size, 0, none⟩) n d :=
  fun _ => ⟨_, rfl, by simp, fun j hj => by
    have hadd : (⟨w.heap.size, 0, none⟩ : Addr).add j = ⟨w.heap.size, j, none⟩ := by unfold Addr.add; split <;> simp_all
    rw [hadd, cell_of_row _ _ _ _ _ _ (heap_alloc_new w _)]
    exact digA_get d n j hj⟩

end Go.Proofs.YtcnedecmmplmoaaGreatDoor

/- Versions as plain lists of bytes: parsing, comparing. No program here. -/
namespace Go.Proofs.YtcnedecmmplmoaaGreatDoor.Ver
open Go

abbrev BL := List UInt8
def digB (c : UInt8) : Bool := decide (48 ≤ c.toNat ∧ c.toNat ≤ 57)
def tagB (c : UInt8) : Bool := decide ((97 ≤ c.toNat ∧ c.toNat ≤ 122) ∨ (48 ≤ c.toNat ∧ c.toNat ≤ 57))
def numV (l : BL) : Nat := l.foldl (fun n c => 10 * n + (c.toNat - 48)) 0
def okNum (l : BL) : Bool := decide (1 ≤ l.length ∧ l.length ≤ 9) && l.all digB && !(decide (l.head? = some 48) && decide (1 < l.length))
def okTag (l : BL) : Bool := decide (l.length ≤ 16) && l.all tagB
def brk (c : UInt8) : BL → BL × BL × Bool
  | [] => ([], [], false)
  | x :: r => if x = c then ([], r, true) else (x :: (brk c r).1, (brk c r).2.1, (brk c r).2.2)
def parts (c : UInt8) : BL → List BL
  | [] => [[]]
  | x :: r => if x = c then [] :: parts c r else match parts c r with
    | [] => [[x]]
    | p :: ps => (x :: p) :: ps
def prsH (l : BL) : Option (List Nat) := if (parts 46 l).length ≤ 8 ∧ (parts 46 l).all okNum = true then some ((parts 46 l).map numV) else none
def prs (l : BL) : Option (List Nat × BL) :=
  if (brk 45 l).2.2 = true then (if (brk 45 l).2.1 ≠ [] ∧ okTag (brk 45 l).2.1 = true then (prsH (brk 45 l).1).map fun ns => (ns, (brk 45 l).2.1) else none)
  else (prsH l).map fun ns => (ns, [])

theorem brk_no (c : UInt8) : ∀ l : BL, (brk c l).2.2 = false → (brk c l).1 = l ∧ (brk c l).2.1 = [] ∧ c ∉ l
  | [], _ => ⟨rfl, rfl, by simp⟩
  | x :: r, h => by
    unfold brk at h ⊢
    by_cases hx : x = c
    · rw [if_pos hx] at h; cases h
    · rw [if_neg hx] at h ⊢
      obtain ⟨h1, h2, h3⟩ := brk_no c r h
      exact ⟨by simp [h1], h2, by simp [h3, Ne.symm hx]⟩
theorem brk_yes (c : UInt8) : ∀ l : BL, (brk c l).2.2 = true → l = (brk c l).1 ++ c :: (brk c l).2.1 ∧ c ∉ (brk c l).1
  | [], h => by cases h
  | x :: r, h => by
    unfold brk at h ⊢
    by_cases hx : x = c
    · rw [if_pos hx]; subst hx; simp
    · rw [if_neg hx] at h ⊢
      obtain ⟨h1, h2⟩ := brk_yes c r h
      exact ⟨by simpa using h1, by simp [h2, Ne.symm hx]⟩
theorem brk_app (c : UInt8) (a r : BL) (h : c ∉ a) : brk c (a ++ c :: r) = (a, r, true) := by
  induction a with
  | nil => simp [brk]
  | cons x a ih =>
    have hx : x ≠ c := fun e => h (by simp [e])
    rw [List.cons_append, brk, if_neg hx, ih (fun e => h (by simp [e]))]
theorem brk_not (c : UInt8) (l : BL) (h : c ∉ l) : brk c l = (l, [], false) := by
  induction l with
  | nil => rfl
  | cons x a ih =>
    have hx : x ≠ c := fun e => h (by simp [e])
    rw [brk, if_neg hx, ih (fun e => h (by simp [e]))]
theorem index_one (c : UInt8) : ∀ l : BL, Lib.index l [c] = if (brk c l).2.2 = true then ((brk c l).1.length : Int) else -1
  | [] => rfl
  | x :: r => by
    have ih := index_one c r
    unfold Lib.index brk
    by_cases hx : x = c
    · subst hx; simp
    · rw [if_neg (by simp [Ne.symm hx]), if_neg hx, ih]
      cases hb : (brk c r).2.2
      · simp [hb]
      · simp only [if_pos, hb]
        rw [if_neg (by simp; try omega)]
        simp
theorem cut_one (c : UInt8) (l : BL) : Lib.cut l [c] = brk c l := by
  unfold Lib.cut
  rw [index_one]
  cases hb : (brk c l).2.2
  · obtain ⟨h1, h2, _⟩ := brk_no c l hb
    have e : brk c l = ((brk c l).1, (brk c l).2.1, (brk c l).2.2) := rfl
    rw [if_neg (by simp), e, h1, h2, hb]
  · obtain ⟨h1, _⟩ := brk_yes c l hb
    have e : brk c l = ((brk c l).1, (brk c l).2.1, (brk c l).2.2) := rfl
    rw [if_pos rfl, if_pos (by omega)]
    generalize (brk c l).1 = a at *
    generalize (brk c l).2.1 = r at *
    rw [e, hb, h1]
    simp
theorem parts_ne (c : UInt8) (l : BL) : parts c l ≠ [] := by
  cases l with
  | nil => simp [parts]
  | cons x r => unfold parts; split; simp; split <;> simp
theorem parts_not (c : UInt8) (l : BL) (h : c ∉ l) : parts c l = [l] := by
  induction l with
  | nil => rfl
  | cons x a ih =>
    have hx : x ≠ c := fun e => h (by simp [e])
    rw [parts, if_neg hx, ih (fun e => h (by simp [e]))]
theorem parts_app (c : UInt8) (a r : BL) (h : c ∉ a) : parts c (a ++ c :: r) = a :: parts c r := by
  induction a with
  | nil => simp [parts]
  | cons x a ih =>
    have hx : x ≠ c := fun e => h (by simp [e])
    rw [List.cons_append, parts, if_neg hx, ih (fun e => h (by simp [e]))]
theorem parts_brk_yes (c : UInt8) (l : BL) (h : (brk c l).2.2 = true) : parts c l = (brk c l).1 :: parts c (brk c l).2.1 := by
  obtain ⟨h1, h2⟩ := brk_yes c l h
  have := parts_app c (brk c l).1 (brk c l).2.1 h2
  rwa [← h1] at this
theorem parts_brk_no (c : UInt8) (l : BL) (h : (brk c l).2.2 = false) : parts c l = [l] := parts_not c l (brk_no c l h).2.2

/-- A number's digits. -/
theorem numV_snoc (l : BL) (c : UInt8) : numV (l ++ [c]) = 10 * numV l + (c.toNat - 48) := by simp [numV]
theorem foldl_lt : ∀ (l : BL) (n k : Nat), l.all digB = true → n < 10 ^ k → l.foldl (fun n c => 10 * n + (c.toNat - 48)) n < 10 ^ (k + l.length)
  | [], n, k, _, h => h
  | c :: l, n, k, ha, h => by
    rw [List.all_cons, Bool.and_eq_true] at ha
    have h2 : c.toNat ≤ 57 := by have := ha.1; simp [digB] at this; omega
    have := foldl_lt l (10 * n + (c.toNat - 48)) (k + 1) ha.2 (by rw [Nat.pow_succ]; omega)
    rw [List.foldl_cons, List.length_cons, show k + (l.length + 1) = k + 1 + l.length by omega]
    exact this
theorem numV_lt (l : BL) (h : l.all digB = true) : numV l < 10 ^ l.length := by
  have := foldl_lt l 0 0 h (by decide)
  simpa [numV] using this
theorem okNum_lt (l : BL) (h : okNum l = true) : numV l < 1000000000 := by
  simp [okNum] at h
  have h1 := numV_lt l (by simp; exact h.1.2)
  have : 10 ^ l.length ≤ 10 ^ 9 := Nat.pow_le_pow_right (by decide) h.1.1.2
  omega
theorem numV_le (l : BL) (h : l.all digB = true) (h9 : l.length ≤ 9) : numV l < 1000000000 := by
  have h1 := numV_lt l h
  have : 10 ^ l.length ≤ 10 ^ 9 := Nat.pow_le_pow_right (by decide) h9
  omega
end Go.Proofs.YtcnedecmmplmoaaGreatDoor.Ver

/- The order of versions. No program here. -/
namespace Go.Proofs.YtcnedecmmplmoaaGreatDoor.Ver
open Go

/-- A way of comparing that is an order: -1, 0, 1. -/
structure IsOrd {α : Type} (f : α → α → Int) : Prop where
  anti : ∀ a b, f b a = - f a b
  zero : ∀ a b, f a b = 0 ↔ a = b
  trans : ∀ a b c, f a b ≤ 0 → f b c ≤ 0 → f a c ≤ 0
  range : ∀ a b, -1 ≤ f a b ∧ f a b ≤ 1
theorem IsOrd.strict {α : Type} {f : α → α → Int} (h : IsOrd f) (a b c : α) (h1 : f a b < 0) (h2 : f b c ≤ 0) : f a c < 0 := by
  have h3 := h.trans a b c (by omega) h2
  rcases Int.lt_or_eq_of_le h3 with h4 | h4
  · exact h4
  · have e := (h.zero a c).1 h4
    subst e
    have := h.anti a b
    omega
def lexF {α β : Type} (f : α → α → Int) (g : β → β → Int) (a b : α × β) : Int := if f a.1 b.1 ≠ 0 then f a.1 b.1 else g a.2 b.2
theorem IsOrd.lex {α β : Type} {f : α → α → Int} {g : β → β → Int} (hf : IsOrd f) (hg : IsOrd g) : IsOrd (lexF f g) where
  anti a b := by
    unfold lexF
    have h1 := hf.anti a.1 b.1
    by_cases h : f a.1 b.1 = 0
    · rw [if_neg (by omega), if_neg (by omega)]; exact hg.anti _ _
    · rw [if_pos (by omega), if_pos (by omega)]; exact h1
  zero a b := by
    unfold lexF
    by_cases h : f a.1 b.1 = 0
    · rw [if_neg (by omega), hg.zero]
      have e := (hf.zero _ _).1 h
      exact ⟨fun h2 => Prod.ext e h2, fun h2 => by rw [h2]⟩
    · rw [if_pos h]
      exact ⟨fun h2 => absurd h2 h, fun h2 => by subst h2; exact (hf.zero _ _).2 rfl⟩
  trans a b c h1 h2 := by
    unfold lexF at *
    have t := hf.trans a.1 b.1 c.1
    by_cases ha : f a.1 b.1 = 0
    · have e := (hf.zero _ _).1 ha
      rw [if_neg (by omega)] at h1
      rw [e]
      by_cases hb : f b.1 c.1 = 0
      · rw [if_neg (by omega)] at h2 ⊢
        exact hg.trans _ _ _ h1 h2
      · rw [if_pos hb] at h2 ⊢
        exact h2
    · rw [if_pos ha] at h1
      by_cases hb : f b.1 c.1 = 0
      · have e := (hf.zero _ _).1 hb
        rw [← e, if_pos ha]; exact h1
      · rw [if_pos hb] at h2
        have := hf.strict a.1 b.1 c.1 (by omega) h2
        rw [if_pos (by omega)]; omega
  range a b := by
    unfold lexF
    split
    · exact hf.range _ _
    · exact hg.range _ _
def cmpI (x y : Int) : Int := if x < y then -1 else if y < x then 1 else 0
theorem cmpI_ord : IsOrd cmpI where
  anti a b := by unfold cmpI; split <;> split <;> (try split) <;> (try split) <;> omega
  zero a b := by unfold cmpI; split; · omega
                 split <;> omega
  trans a b c := by unfold cmpI; intro h1 h2; split at h1 <;> split at h2 <;> (try split at h1) <;> (try split at h2) <;> split <;> (try split) <;> omega
  range a b := by unfold cmpI; split; · omega
                  split <;> omega
def cmpL : List Int → List Int → Int
  | [], [] => 0
  | [], _ :: _ => -1
  | _ :: _, [] => 1
  | x :: a, y :: b => if cmpI x y ≠ 0 then cmpI x y else cmpL a b
theorem cmpL_anti : ∀ a b, cmpL b a = - cmpL a b
  | [], [] => rfl
  | [], _ :: _ => rfl
  | _ :: _, [] => rfl
  | x :: a, y :: b => by
    unfold cmpL
    have h := cmpI_ord.anti x y
    by_cases e : cmpI x y = 0
    · rw [if_neg (by omega), if_neg (by omega)]; exact cmpL_anti a b
    · rw [if_pos (by omega), if_pos (by omega)]; exact h
theorem cmpL_zero : ∀ a b, cmpL a b = 0 ↔ a = b
  | [], [] => by simp [cmpL]
  | [], _ :: _ => by simp [cmpL]
  | _ :: _, [] => by simp [cmpL]
  | x :: a, y :: b => by
    unfold cmpL
    by_cases e : cmpI x y = 0
    · rw [if_neg (by omega), cmpL_zero a b]
      have := (cmpI_ord.zero x y).1 e
      simp [this]
    · rw [if_pos e]
      constructor
      · intro h; exact absurd h e
      · intro h; cases h; exact (cmpI_ord.zero _ _).2 rfl
theorem cmpL_trans : ∀ a b c, cmpL a b ≤ 0 → cmpL b c ≤ 0 → cmpL a c ≤ 0
  | [], b, [], _, _ => by simp [cmpL]
  | [], b, _ :: _, _, _ => by simp [cmpL]
  | x :: a, [], c, h, _ => by simp [cmpL] at h
  | x :: a, y :: b, [], _, h => by simp [cmpL] at h
  | x :: a, y :: b, z :: c, h1, h2 => by
    unfold cmpL at *
    by_cases ha : cmpI x y = 0
    · have e := (cmpI_ord.zero _ _).1 ha
      subst e
      rw [if_neg (by omega)] at h1
      by_cases hb : cmpI x z = 0
      · rw [if_neg (by omega)] at h2 ⊢
        exact cmpL_trans a b c h1 h2
      · rw [if_pos hb] at h2 ⊢
        exact h2
    · rw [if_pos ha] at h1
      by_cases hb : cmpI y z = 0
      · have e := (cmpI_ord.zero _ _).1 hb
        subst e
        rw [if_pos ha]; exact h1
      · rw [if_pos hb] at h2
        have := cmpI_ord.strict x y z (by omega) h2
        rw [if_pos (by omega)]; omega
theorem cmpL_range : ∀ a b, -1 ≤ cmpL a b ∧ cmpL a b ≤ 1
  | [], [] => by simp [cmpL]
  | [], _ :: _ => by simp [cmpL]
  | _ :: _, [] => by simp [cmpL]
  | x :: a, y :: b => by
    unfold cmpL
    split
    · exact cmpI_ord.range x y
    · exact cmpL_range a b
theorem cmpL_ord : IsOrd cmpL := ⟨cmpL_anti, cmpL_zero, cmpL_trans, cmpL_range⟩
def bytesI (l : BL) : List Int := l.map fun c => (c.toNat : Int)
theorem bytesI_inj (a b : BL) (h : bytesI a = bytesI b) : a = b := by
  unfold bytesI at h
  exact (List.map_inj_right (fun x y e => UInt8.toNat_inj.1 (by omega))).1 h
theorem bytesI_len (a : BL) : (bytesI a).length = a.length := by simp [bytesI]
def cmpT (a b : BL) : Int := if a = [] ∨ b = [] then cmpI b.length a.length else cmpL (bytesI a) (bytesI b)
theorem cmpT_ord : IsOrd cmpT where
  anti a b := by
    unfold cmpT
    by_cases h : a = [] ∨ b = []
    · rw [if_pos h, if_pos h.symm]; exact cmpI_ord.anti _ _
    · rw [if_neg h, if_neg (fun h' => h h'.symm)]; exact cmpL_anti _ _
  zero a b := by
    unfold cmpT
    split
    · rename_i h
      rw [cmpI_ord.zero]
      rcases h with rfl | rfl
      · constructor
        · intro h; exact (List.length_eq_zero_iff.1 (by simpa using h)).symm
        · intro h; rw [h]
      · constructor
        · intro h; exact List.length_eq_zero_iff.1 (by simp at h; omega)
        · intro h; rw [h]
    · rw [cmpL_zero]
      exact ⟨bytesI_inj _ _, fun h => by rw [h]⟩
  trans a b c := by
    unfold cmpT
    cases a with
    | nil =>
      intro h1 h2
      cases b with
      | nil => exact h2
      | cons y b => rw [if_pos (.inl rfl)] at h1; unfold cmpI at h1; simp only [List.length_nil, List.length_cons] at h1; split at h1 <;> (try split at h1) <;> omega
    | cons x a =>
      cases c with
      | nil => intro _ _; rw [if_pos (.inr rfl)]; unfold cmpI; simp only [List.length_nil, List.length_cons]; split <;> (try split) <;> omega
      | cons z c =>
        cases b with
        | nil => intro _ h; rw [if_pos (.inl rfl)] at h; unfold cmpI at h; simp only [List.length_nil, List.length_cons] at h; split at h <;> (try split at h) <;> omega
        | cons y b =>
          rw [if_neg (by simp), if_neg (by simp), if_neg (by simp)]
          exact cmpL_trans _ _ _
  range a b := by
    unfold cmpT
    split
    · exact cmpI_ord.range _ _
    · exact cmpL_range _ _
def cmpV : List Int × BL → List Int × BL → Int := lexF cmpL cmpT
theorem cmpV_ord : IsOrd cmpV := cmpL_ord.lex cmpT_ord
theorem cmpV_eq (a b : List Int) (s t : BL) : cmpV (a, s) (b, t) = if cmpL a b ≠ 0 then cmpL a b else cmpT s t := rfl
/-- What two rows are when the first k places are alike. -/
theorem cmpL_same : ∀ (k : Nat) (a b : List Int), k ≤ a.length → k ≤ b.length → (∀ j, j < k → a.getD j 0 = b.getD j 0) → cmpL a b = cmpL (a.drop k) (b.drop k)
  | 0, a, b, _, _, _ => by simp
  | k + 1, [], b, h, _, _ => by simp at h
  | k + 1, x :: a, [], _, h, _ => by simp at h
  | k + 1, x :: a, y :: b, h1, h2, h => by
    have h0 := h 0 (by omega)
    simp at h0
    subst h0
    rw [show cmpL (x :: a) (x :: b) = cmpL a b from by rw [cmpL, if_neg (by simp [cmpI])]]
    simp only [List.drop_succ_cons]
    exact cmpL_same k a b (by simpa using h1) (by simpa using h2) fun j hj => by simpa using h (j + 1) (by omega)
theorem cmpL_at (k : Nat) (a b : List Int) (h1 : k < a.length) (h2 : k < b.length) (h : ∀ j, j < k → a.getD j 0 = b.getD j 0) (hne : a.getD k 0 ≠ b.getD k 0) : cmpL a b = cmpI (a.getD k 0) (b.getD k 0) := by
  rw [cmpL_same k a b (by omega) (by omega) h, List.drop_eq_getElem_cons h1, List.drop_eq_getElem_cons h2]
  have e1 : a.getD k 0 = a[k] := by simp [List.getD, h1]
  have e2 : b.getD k 0 = b[k] := by simp [List.getD, h2]
  rw [e1, e2] at hne ⊢
  unfold cmpL
  exact if_pos (fun e => hne ((cmpI_ord.zero _ _).1 e))
theorem cmpL_end (k : Nat) (a b : List Int) (hk : k = min a.length b.length) (h : ∀ j, j < k → a.getD j 0 = b.getD j 0) : cmpL a b = cmpI a.length b.length := by
  rw [cmpL_same k a b (by omega) (by omega) h]
  rcases Nat.lt_trichotomy a.length b.length with hl | hl | hl
  · rw [List.drop_of_length_le (by omega), List.drop_eq_getElem_cons (show k < b.length by omega)]
    simp [cmpL, cmpI]; omega
  · rw [List.drop_of_length_le (by omega), List.drop_of_length_le (by omega)]
    simp [cmpL, cmpI, hl]
  · rw [List.drop_of_length_le (l := b) (by omega), List.drop_eq_getElem_cons (show k < a.length by omega)]
    simp [cmpL, cmpI]; omega
end Go.Proofs.YtcnedecmmplmoaaGreatDoor.Ver

/- Printing versions, and sorting. No program here. -/
namespace Go.Proofs.YtcnedecmmplmoaaGreatDoor.Ver
open Go

theorem dig_ofNat (d : Nat) (h : d < 10) : (UInt8.ofNat (48 + d)).toNat = 48 + d := by
  simp; omega
theorem dec_step (n : Nat) (h : ¬ n < 10) : Lib.decDigits n = Lib.decDigits (n / 10) ++ [UInt8.ofNat (48 + n % 10)] := by rw [Lib.decDigits, dif_neg h]
theorem dec_all (n : Nat) : (Lib.decDigits n).all digB = true := by
  induction n using Nat.strongRecOn with
  | _ n ih =>
    by_cases h : n < 10
    · rw [Lib.decDigits_one h]
      simp only [List.all_cons, List.all_nil, Bool.and_true, digB, dig_ofNat n h]
      simp; omega
    · rw [dec_step n h, List.all_append, ih (n / 10) (by omega)]
      simp only [List.all_cons, List.all_nil, Bool.and_true, Bool.true_and, digB, dig_ofNat (n % 10) (by omega)]
      simp; omega
theorem dec_num (n : Nat) : numV (Lib.decDigits n) = n := by
  induction n using Nat.strongRecOn with
  | _ n ih =>
    by_cases h : n < 10
    · rw [Lib.decDigits_one h]
      show 10 * 0 + ((UInt8.ofNat (48 + n)).toNat - 48) = n
      rw [dig_ofNat n h]; omega
    · rw [dec_step n h, numV_snoc, ih (n / 10) (by omega), dig_ofNat (n % 10) (by omega)]; omega
theorem dec_head (n : Nat) (h1 : 1 ≤ n) : (Lib.decDigits n).head? ≠ some 48 := by
  induction n using Nat.strongRecOn with
  | _ n ih =>
    by_cases h : n < 10
    · rw [Lib.decDigits_one h]
      simp only [List.head?_cons]
      intro e
      have := congrArg UInt8.toNat (Option.some.inj e)
      rw [dig_ofNat n h] at this
      have e48 : (48 : UInt8).toNat = 48 := rfl
      omega
    · rw [dec_step n h]
      have := ih (n / 10) (by omega) (by omega)
      cases hd : Lib.decDigits (n / 10) with
      | nil => have := Lib.decDigits_length (n / 10); have := Lib.nDigits_pos (n / 10); rw [hd] at *; simp at *; omega
      | cons a l => rw [hd] at this; simpa using this
theorem dec_len (n : Nat) (h : n < 1000000000) : 1 ≤ (Lib.decDigits n).length ∧ (Lib.decDigits n).length ≤ 9 := by
  rw [Lib.decDigits_length]
  refine ⟨Lib.nDigits_pos n, ?_⟩
  rcases Nat.lt_or_ge (Lib.nDigits n) 10 with h1 | h1
  · omega
  · exfalso
    obtain ⟨k, hk⟩ : ∃ k, k + 1 = Lib.nDigits n := ⟨Lib.nDigits n - 1, by omega⟩
    have e := Lib.decDigits_eq n
    have hlow : ∀ k n, Lib.nDigits n = k + 1 → 1 ≤ k → 10 ^ k ≤ n := by
      intro k
      induction k with
      | zero => intro _ _ h; omega
      | succ k ih =>
        intro n hn _
        have hb : ¬ n < 10 := fun hb => by rw [Lib.nDigits_small hb] at hn; omega
        rw [Lib.nDigits_big hb] at hn
        by_cases hk0 : k = 0
        · subst hk0; omega
        · have := ih (n / 10) (by omega) (by omega)
          rw [Nat.pow_succ]; omega
    have h2 := hlow k n hk.symm (by omega)
    have : 10 ^ 9 ≤ 10 ^ k := Nat.pow_le_pow_right (by decide) (by omega)
    omega
theorem dec_ok (n : Nat) (h : n < 1000000000) : okNum (Lib.decDigits n) = true := by
  have hl := dec_len n h
  have ha := dec_all n
  by_cases h0 : n = 0
  · subst h0; rw [Lib.decDigits_one (by decide)]; rfl
  · have hh := dec_head n (by omega)
    simp only [okNum, ha, Bool.and_true, decide_eq_true hl, Bool.true_and, decide_eq_false hh, Bool.false_and, Bool.not_false]
theorem dec_back (l : BL) (h : okNum l = true) : Lib.decDigits (numV l) = l := by
  have key : ∀ k (l : BL), l.length = k + 1 → l.all digB = true → l.head? ≠ some 48 → 1 ≤ numV l ∧ Lib.decDigits (numV l) = l := by
    intro k
    induction k with
    | zero =>
      intro l hl ha hh
      obtain ⟨c, rfl⟩ := List.length_eq_one_iff.1 hl
      simp [digB] at ha
      have hne : c.toNat ≠ 48 := fun e => hh (by simp; exact UInt8.toNat_inj.1 e)
      have e : numV [c] = c.toNat - 48 := by simp [numV]
      rw [e]
      refine ⟨by omega, ?_⟩
      rw [Lib.decDigits_one (by omega), show 48 + (c.toNat - 48) = c.toNat by omega]
      simp
    | succ k ih =>
      intro l hl ha hh
      have hne : l ≠ [] := fun e => by rw [e] at hl; simp at hl
      obtain ⟨m, c, rfl⟩ : ∃ m c, l = m ++ [c] := ⟨l.dropLast, l.getLast hne, (List.dropLast_concat_getLast hne).symm⟩
      rw [List.all_append, Bool.and_eq_true] at ha
      have hml : m.length = k + 1 := by simpa using hl
      have hmh : m.head? ≠ some 48 := by
        cases m with
        | nil => simp at hml
        | cons a m => simpa using hh
      obtain ⟨h1, h2⟩ := ih m hml ha.1 hmh
      have hc : 48 ≤ c.toNat ∧ c.toNat ≤ 57 := by have := ha.2; simpa [digB] using this
      rw [numV_snoc]
      refine ⟨by omega, ?_⟩
      rw [dec_step _ (by omega), show (10 * numV m + (c.toNat - 48)) / 10 = numV m by omega, h2, show 48 + (10 * numV m + (c.toNat - 48)) % 10 = c.toNat by omega]
      simp
  simp only [okNum, Bool.and_eq_true, decide_eq_true_eq, Bool.not_eq_true', Bool.and_eq_false_iff, decide_eq_false_iff_not] at h
  obtain ⟨⟨⟨h1, h9⟩, ha⟩, h0⟩ := h
  rcases h0 with h0 | h0
  · exact (key (l.length - 1) l (by omega) ha h0).2
  · obtain ⟨c, rfl⟩ := List.length_eq_one_iff.1 (show l.length = 1 by omega)
    simp [digB] at ha
    have e : numV [c] = c.toNat - 48 := by simp [numV]
    rw [e, Lib.decDigits_one (by omega), show 48 + (c.toNat - 48) = c.toNat by omega]
    simp
theorem inter_cons2 (c : UInt8) (p q : BL) (ps : List BL) : List.intercalate [c] (p :: q :: ps) = p ++ c :: List.intercalate [c] (q :: ps) := by
  simp [List.intercalate]
theorem inter_one (c : UInt8) (p : BL) : List.intercalate [c] [p] = p := by simp [List.intercalate]
theorem parts_inter (c : UInt8) : ∀ (p : BL) (ps : List BL), c ∉ p → (∀ q ∈ ps, c ∉ q) → parts c (List.intercalate [c] (p :: ps)) = p :: ps
  | p, [], h, _ => by rw [inter_one, parts_not c p h]
  | p, q :: ps, h, hs => by
    rw [inter_cons2, parts_app c p _ h, parts_inter c q ps (hs q (by simp)) fun r hr => hs r (by simp [hr])]
theorem inter_parts (c : UInt8) : ∀ l : BL, List.intercalate [c] (parts c l) = l
  | [] => rfl
  | x :: r => by
    have ih := inter_parts c r
    unfold parts
    by_cases hx : x = c
    · rw [if_pos hx]
      cases hp : parts c r with
      | nil => exact absurd hp (parts_ne c r)
      | cons p ps => rw [inter_cons2, ← hp, ih, hx]; rfl
    · rw [if_neg hx]
      cases hp : parts c r with
      | nil => exact absurd hp (parts_ne c r)
      | cons p ps =>
        rw [hp] at ih
        cases ps with
        | nil => rw [inter_one] at ih ⊢; rw [ih]
        | cons q ps => rw [inter_cons2] at ih ⊢; rw [List.cons_append, ih]
theorem inter_notin (d c : UInt8) (hd : d ≠ c) : ∀ ps : List BL, (∀ q ∈ ps, d ∉ q) → d ∉ List.intercalate [c] ps
  | [], _ => by simp [List.intercalate]
  | [p], h => by rw [inter_one]; exact h p (by simp)
  | p :: q :: ps, h => by
    rw [inter_cons2, List.mem_append, List.mem_cons]
    rintro (h1 | h1 | h1)
    · exact h p (by simp) h1
    · exact hd h1
    · exact inter_notin d c hd (q :: ps) (fun r hr => h r (by simp [hr])) h1
def prt (ns : List Nat) (t : BL) : BL := List.intercalate [46] (ns.map Lib.decDigits) ++ (if t = [] then [] else 45 :: t)
def okV (ns : List Nat) (t : BL) : Bool := decide (1 ≤ ns.length ∧ ns.length ≤ 8) && ns.all (fun n => decide (n < 1000000000)) && okTag t
theorem dig_ne (l : BL) (h : l.all digB = true) (c : UInt8) (hc : digB c = false) : c ∉ l := fun hm => by
  have := List.all_eq_true.1 h c hm
  rw [hc] at this; cases this
theorem prsH_inter (ns : List Nat) (h1 : 1 ≤ ns.length) (h8 : ns.length ≤ 8) (ha : ∀ n ∈ ns, n < 1000000000) : prsH (List.intercalate [46] (ns.map Lib.decDigits)) = some ns := by
  have hp : parts 46 (List.intercalate [46] (ns.map Lib.decDigits)) = ns.map Lib.decDigits := by
    cases ns with
    | nil => simp at h1
    | cons n ns =>
      exact parts_inter 46 _ _ (dig_ne _ (dec_all n) 46 (by decide)) fun q hq => by
        obtain ⟨m, _, rfl⟩ := List.mem_map.1 hq
        exact dig_ne _ (dec_all m) 46 (by decide)
  unfold prsH
  rw [hp, if_pos]
  · rw [List.map_map]
    congr 1
    exact (List.map_congr_left fun n _ => dec_num n).trans (List.map_id _)
  · refine ⟨by simpa using h8, ?_⟩
    rw [List.all_map, List.all_eq_true]
    intro n hn
    exact dec_ok n (ha n hn)
theorem prs_prt (ns : List Nat) (t : BL) (h : okV ns t = true) : prs (prt ns t) = some (ns, t) := by
  simp only [okV, Bool.and_eq_true, decide_eq_true_eq, List.all_eq_true] at h
  obtain ⟨⟨⟨h1, h8⟩, ha⟩, ht⟩ := h
  have hH := prsH_inter ns h1 h8 ha
  have hn : (45 : UInt8) ∉ List.intercalate [46] (ns.map Lib.decDigits) := inter_notin 45 46 (by decide) _ fun q hq => by
    obtain ⟨m, _, rfl⟩ := List.mem_map.1 hq
    exact dig_ne _ (dec_all m) 45 (by decide)
  unfold prs prt
  by_cases hte : t = []
  · subst hte
    rw [if_pos rfl, List.append_nil, brk_not _ _ hn, if_neg (by simp), hH]
    rfl
  · rw [if_neg hte, brk_app _ _ _ hn, if_pos rfl, if_pos ⟨hte, ht⟩, hH]
    rfl
theorem prsH_some (l : BL) (ns : List Nat) (h : prsH l = some ns) : List.intercalate [46] (ns.map Lib.decDigits) = l ∧ 1 ≤ ns.length ∧ ns.length ≤ 8 ∧ ∀ n ∈ ns, n < 1000000000 := by
  unfold prsH at h
  split at h
  · rename_i hc
    have e := Option.some.inj h
    subst e
    have hk := List.all_eq_true.1 hc.2
    refine ⟨?_, ?_, by simpa using hc.1, ?_⟩
    · rw [List.map_map, (List.map_congr_left (f := Lib.decDigits ∘ numV) (g := id) fun p hp => dec_back p (hk p hp)), List.map_id, inter_parts]
    · have := parts_ne 46 l
      rw [List.length_map]
      exact List.length_pos_iff.2 this
    · intro n hn
      obtain ⟨p, hp, rfl⟩ := List.mem_map.1 hn
      exact okNum_lt p (hk p hp)
  · cases h
theorem prs_some (s : BL) (ns : List Nat) (t : BL) (h : prs s = some (ns, t)) : prt ns t = s ∧ okV ns t = true := by
  unfold prs at h
  cases hb : (brk 45 s).2.2
  · rw [if_neg (by simp [hb])] at h
    obtain ⟨m, hm, e⟩ := Option.map_eq_some_iff.1 h
    cases e
    obtain ⟨h1, h2, h3, h4⟩ := prsH_some _ _ hm
    refine ⟨by rw [prt, if_pos rfl, List.append_nil, h1], ?_⟩
    simp only [okV, Bool.and_eq_true, decide_eq_true_eq, List.all_eq_true]
    exact ⟨⟨⟨h2, h3⟩, h4⟩, rfl⟩
  · rw [if_pos hb] at h
    split at h
    · rename_i hc
      obtain ⟨m, hm, e⟩ := Option.map_eq_some_iff.1 h
      cases e
      obtain ⟨h1, h2, h3, h4⟩ := prsH_some _ _ hm
      obtain ⟨h5, _⟩ := brk_yes _ _ hb
      refine ⟨by rw [prt, if_neg hc.1, h1]; exact h5.symm, ?_⟩
      simp only [okV, Bool.and_eq_true, decide_eq_true_eq, List.all_eq_true]
      exact ⟨⟨⟨h2, h3⟩, h4⟩, hc.2⟩
    · cases h
theorem prs_inj (s t : BL) (v : List Nat × BL) (h1 : prs s = some v) (h2 : prs t = some v) : s = t := by
  obtain ⟨a, b⟩ := v
  rw [← (prs_some s a b h1).1, ← (prs_some t a b h2).1]

/-- Sorted rows. -/
def Srt {α : Type} (f : α → α → Int) (l : List α) : Prop := l.Pairwise fun x y => f x y ≤ 0
theorem srt_unique {α : Type} (f : α → α → Int) : ∀ l m : List α, l.Perm m → Srt f l → Srt f m → (∀ x ∈ l, ∀ y ∈ l, f x y ≤ 0 → f y x ≤ 0 → x = y) → l = m
  | [], m, hp, _, _, _ => (List.Perm.nil_eq hp)
  | x :: l, [], hp, _, _, _ => absurd hp.length_eq (by simp)
  | x :: l, y :: m, hp, h1, h2, ha => by
    have hx : x ∈ y :: m := hp.mem_iff.1 (by simp)
    have hy : y ∈ x :: l := hp.mem_iff.2 (by simp)
    have e : x = y := by
      rcases List.mem_cons.1 hx with e | hxm
      · exact e
      · rcases List.mem_cons.1 hy with e | hyl
        · exact e.symm
        · exact ha x (by simp) y (by simp [hyl]) ((List.pairwise_cons.1 h1).1 y hyl) ((List.pairwise_cons.1 h2).1 x hxm)
    subst e
    rw [srt_unique f l m ((List.perm_cons x).1 hp) (List.pairwise_cons.1 h1).2 (List.pairwise_cons.1 h2).2 fun a ha' b hb => ha a (by simp [ha']) b (by simp [hb])]
end Go.Proofs.YtcnedecmmplmoaaGreatDoor.Ver
