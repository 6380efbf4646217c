/- Tests in memory. -/
import Derived.Test.YtjckcdemkpmheaaDoorRngE
namespace Go.Proofs.YtjckcdemkpmheaaDoor
open Go.RowKit Go.BigFrame
open Ver (cmpV BL)

structure Tst where
  op : Nat
  v : Value
  xs : List Int
  tag : ByteArray
def Tst.enc (t : Tst) : List Value := [fnOf t.op, t.v, .string t.tag]
def Tst.key (t : Tst) : Nat × List Int × BL := (t.op, t.xs, t.tag.data.toList)
def keyB (b : Bd) : Nat × List Int × BL := (b.1, (verOf b.2).1, (verOf b.2).2)
def tstCells (ts : List Tst) : List Value := ts.flatMap Tst.enc
theorem tstCells_snoc (ts : List Tst) (t : Tst) : tstCells (ts ++ [t]) = tstCells ts ++ t.enc := by simp [tstCells]
def TOk (w : World) (S : Nat → Prop) (t : Tst) : Prop := RdS w S t.v t.xs.length (ints t.xs) ∧ t.tag.size ≤ 16 ∧ t.op ≤ 7
theorem TOk.keep {w w' : World} {S : Nat → Prop} {t : Tst} (h : TOk w S t) (hs : SameS w w' S) : TOk w' S t := ⟨h.1.keep hs, h.2⟩
theorem TOk.weak {w : World} {S S' : Nat → Prop} {t : Tst} (h : TOk w S t) (hw : ∀ b, b < w.heap.size → S b → S' b) : TOk w S' t := ⟨h.1.weak hw, h.2⟩
def TRow (w : World) (S : Nat → Prop) (v : Value) (row : List Bd) : Prop :=
  ∃ ts : List Tst, RdS w S v row.length (tstCells ts) ∧ (∀ t ∈ ts, TOk w S t) ∧ ts.map Tst.key = row.map keyB
theorem TRow.keeps : Keeps TRow :=
  ⟨fun ⟨ts, h1, h2, h3⟩ hs => ⟨ts, h1.keep hs, fun t ht => (h2 t ht).keep hs, h3⟩, fun ⟨ts, h1, h2, h3⟩ hw => ⟨ts, h1.weak hw, fun t ht => (h2 t ht).weak hw, h3⟩⟩
theorem TOk.step {w w' : World} {c gg : Nat} {p : Option Nat} {t : Tst} (h : TOk w (fun b => c ≤ b ∧ p ≠ some b) t) (hs : SameS w w' (fun b => p ≠ some b)) (hg : p = some gg ∨ w.heap.size ≤ gg) : TOk w' (fun b => c ≤ b ∧ some gg ≠ some b) t := by
  refine (h.weak (S' := fun b => c ≤ b ∧ p ≠ some b ∧ some gg ≠ some b) fun b hb hS => ⟨hS.1, hS.2, ?_⟩).keep (hs.weak fun b _ hS => hS.2.1) |>.weak fun b _ hS => ⟨hS.1, hS.2.2⟩
  rcases hg with e | hg
  · rw [← e]; exact hS.2
  · intro e; cases e; omega
theorem items_moved {α : Type} {R : World → (Nat → Prop) → Value → α → Prop} (K : Keeps R) {w w' : World} {v v' : Value} {vs : List Value} {r : List α} (h : ItemsS R w (fun b => v.ownBlock ≠ some b) vs r) (hs : SameS w w' (fun b => v.ownBlock ≠ some b)) (hm : Moved w v v') : ItemsS R w' (fun b => v'.ownBlock ≠ some b) vs r := by
  refine ((h.weak K (S' := fun b => v.ownBlock ≠ some b ∧ v'.ownBlock ≠ some b) fun b hb hS => ⟨hS, ?_⟩).keep K (hs.weak fun b _ hS => hS.1)).weak K fun b _ hS => hS.2
  rcases hm with e | ⟨g, e, hg⟩
  · rw [e]; exact hS
  · rw [e]; intro e2; cases e2; omega
theorem infoTest : (Tryd.prog.info? 79).map (fun i => (i.zero, i.size, i.bytes)) = some (some (.agg #[.nilFunc, .slice none 0 0, .string ⟨#[]⟩]), 3, 48) := by kernel_rfl
theorem infoTRow : (Tryd.prog.info? 73).map (fun i => (i.zero, i.size, i.bytes)) = some (some (.slice none 0 0), 1, 24) := by kernel_rfl
theorem infoBound : (Tryd.prog.info? 45).map (fun i => (i.zero, i.size, i.bytes)) = some (some (.agg #[.int .u8 0, .string ⟨#[]⟩]), 2, 24) := by kernel_rfl
theorem infoBRow : (Tryd.prog.info? 31).map (fun i => (i.zero, i.size, i.bytes)) = some (some (.slice none 0 0), 1, 24) := by kernel_rfl
theorem KeepW.alloc {W1 w' : World} {B : Nat} (h : KeepW W1 B w') (o : Obj) : KeepW W1 B (w'.alloc o) := ⟨h.1.alloc h.2 o, by simp; exact Nat.le_succ_of_le h.2⟩
theorem KeepW.below {W1 w' w2 : World} {B : Nat} (h : KeepW W1 B w') (h2 : Below w'.heap.size w' w2) : KeepW W1 B w2 := ⟨below_step h.1 h2 h.2, Nat.le_trans h.2 h2.size⟩
theorem all_next {α : Type} (f : α → Bool) (l : List α) (k : Nat) (x : α) (hk : l[k]? = some x) (h : (l.take k).all f = true) (hx : f x = true) : (l.take (k + 1)).all f = true := by
  obtain ⟨hl, e⟩ := List.getElem?_eq_some_iff.1 hk
  rw [List.take_succ_eq_append_getElem hl, List.all_append, h, e, List.all_cons, hx]; rfl
theorem all_bad {α : Type} (f : α → Bool) (l : List α) (k : Nat) (x : α) (hk : l[k]? = some x) (hx : f x = false) : l.all f = false := by
  rw [Bool.eq_false_iff]
  intro h
  have := List.all_eq_true.1 h x (List.mem_of_getElem? hk)
  rw [hx] at this; cases this
theorem take_next {α : Type} (l : List α) (k : Nat) (x : α) (hk : l[k]? = some x) : l.take (k + 1) = l.take k ++ [x] := by
  obtain ⟨hl, e⟩ := List.getElem?_eq_some_iff.1 hk
  rw [List.take_succ_eq_append_getElem hl, e]
theorem getD_get {α : Type} (l : List α) (k : Nat) (d : α) (hk : k < l.length) : l[k]? = some (l.getD k d) := by simp [hk]
theorem mayR_long (r : List (List Bd)) (h : 16 < r.length) : mayR r = false := by unfold mayR; rw [decide_eq_false (by omega), Bool.false_and]
theorem mayR_row (r : List (List Bd)) (k : Nat) (row : List Bd) (hk : r[k]? = some row) (h : mayRow row = false) : mayR r = false := by unfold mayR; rw [all_bad mayRow r k row hk h, Bool.and_false]
theorem mayRow_len (row : List Bd) (h : ¬ (1 ≤ row.length ∧ row.length ≤ 16)) : mayRow row = false := by unfold mayRow; rw [decide_eq_false h, Bool.false_and]
theorem mayRow_bd (row : List Bd) (k : Nat) (b : Bd) (hk : row[k]? = some b) (h : mayB b = false) : mayRow row = false := by unfold mayRow; rw [all_bad mayB row k b hk h, Bool.and_false]
theorem cell_grown {w w' : World} {row : Option Nat} {b j : Nat} {v : Value} (h : w.cell? ⟨b, j, none⟩ = some v) (hg : w.grownBy w' row) (hne : row ≠ some b) : w'.cell? ⟨b, j, none⟩ = some v := by
  have hb := hg.block b (block_lt_of_cell h) (fun e => hne e.symm)
  unfold World.cell? at h ⊢
  rw [hb]; exact h
/-- append of one value of several cells, to a row of the call's own. -/
theorem wpList_appK {P : Program} {w : World} {ops : Array Oper} {rest : List Oper} {o : Oper} {a : Act} {Q : Exit → Act → World → Prop} (hgd : o.guard = none) (s x : Operand) (t : TypeId)
    (ho : o.op = .call { callee := .builtin .append, args := #[s, x], argTypes := #[t, t] })
    (base : Nat) (e : TypeId) (i : TypeInfo) (z : Value) (size bytes : Nat) (ht : P.underlying t = some (.slice e)) (hi : P.info? e = some i) (hz : i.zero = some z) (hs1 : i.size = size) (hb1 : i.bytes = bytes) (hzs : z.cells.size = size) (hsz : 0 < size)
    (v : Value) (n : Nat) (xs : List Value) (hs : a.eval s = v) (hown : w.ownsRow base e size v n xs) (ad : Addr) (m c : Nat) (news : List Value) (hx : a.eval x = .slice (some ad) m c) (hl : news.length = m * size)
    (hnews : ∀ j u, news[j]? = some u → w.cell? (ad.add j) = some u) (h1 : ∀ u ∈ news, u.oneCell' = true)
    (h63 : n + m ≤ maxLen) (hbytes : (n + m) * bytes ≤ 140737488355328) (hbase : base ≤ w.heap.size)
    (h : ∀ v' w', w'.ownsRow base e size v' (n + m) (xs ++ news) → w.grownBy w' v.ownBlock → Moved w v v' → wpList P ops Q rest (a.put o.dst v') w') : wpList P ops Q (o :: rest) a w :=
  wpList_plain hgd fun _ hK => by
    obtain ⟨v', w', hr, h2, h3, _⟩ := run_append_own (P := P) w base t o.type e i z size bytes ht hi hz hs1 hb1 hzs hsz v n xs hown ad m c news hl hnews h1 h63 hbytes hbase
    have hm := append_moved base t o.type e i z size bytes ht hi hz hs1 hb1 hzs hsz v n xs hown ad m c news hl hnews h1 h63 hbytes v' w' hr
    unfold Oper.wp execOp
    simp only [ho, resolve, invoke, builtin, Sem.run_bind, Sem.run_pure, Result.andThen_ok, List.map_toArray, List.map_cons, List.map_nil, hs, hx, hr]
    exact hK _ _ (h v' w' h2 h3 hm)
/-- All bounds' versions are short. -/
def Short (r : List (List Bd)) : Prop := ∀ row ∈ r, ∀ b ∈ row, b.2.size ≤ 1000000
theorem bounded_any (b : Bd) (w : World) (hv : b.2.size ≤ 1000000) : Calls Tryd.prog 40 #[.agg #[.int .u8 (b.1 : Int), .string b.2]] w (Bounded b w) := by
  obtain ⟨o, v⟩ := b
  by_cases h0 : o = 0
  · subst h0; exact bounded_zero v w
  · exact bounded_pos o h0 v w hv
theorem mayB_le (b : Bd) (h : mayB b = true) : b.1 ≤ 7 := by
  unfold mayB Rng.mayL bdL at h
  split at h
  · rename_i h0; dsimp only at h0; omega
  · simp at h; exact h.1
end Go.Proofs.YtjckcdemkpmheaaDoor
