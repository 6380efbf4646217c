/- Pairs of versions and texts, in a row of the call's own. -/
import Derived.Test.YtijepjoklmblhaaDoorVerK
namespace Go.Proofs.YtijepjoklmblhaaDoor
open Go.RowKit Go.BigFrame
open Ver (prs cmpV BL)

theorem infoPair : (Tryd.prog.info? 62).map (fun i => (i.zero, i.size, i.bytes)) = some (some (.agg #[.slice none 0 0, .string ⟨#[]⟩, .string ⟨#[]⟩]), 3, 56) := by kernel_rfl
/-- append of one value of several cells, to a row of the call's own. -/
theorem wpList_appK {P : Program} {w : World} {ops : Array Oper} {rest : List Oper} {o : Oper} {a : Act} {Q : Exit → Act → World → Prop} (hgd : o.guard = none) (s x : Operand) (t : TypeId)
    (ho : o.op = .call { callee := .builtin .append, args := #[s, x], argTypes := #[t, t] })
    (base : Nat) (e : TypeId) (i : TypeInfo) (z : Value) (size bytes : Nat) (ht : P.underlying t = some (.slice e)) (hi : P.info? e = some i) (hz : i.zero = some z) (hs1 : i.size = size) (hb1 : i.bytes = bytes) (hzs : z.cells.size = size) (hsz : 0 < size)
    (v : Value) (n : Nat) (xs : List Value) (hs : a.eval s = v) (hown : w.ownsRow base e size v n xs) (ad : Addr) (m c : Nat) (news : List Value) (hx : a.eval x = .slice (some ad) m c) (hl : news.length = m * size)
    (hnews : ∀ j u, news[j]? = some u → w.cell? (ad.add j) = some u) (h1 : ∀ u ∈ news, u.oneCell' = true)
    (h63 : n + m ≤ maxLen) (hbytes : (n + m) * bytes ≤ 140737488355328) (hbase : base ≤ w.heap.size)
    (h : ∀ v' w', w'.ownsRow base e size v' (n + m) (xs ++ news) → w.grownBy w' v.ownBlock → Moved w v v' → wpList P ops Q rest (a.put o.dst v') w') : wpList P ops Q (o :: rest) a w :=
  wpList_plain hgd fun _ hK => by
    obtain ⟨v', w', hr, h2, h3, _⟩ := run_append_own (P := P) w base t o.type e i z size bytes ht hi hz hs1 hb1 hzs hsz v n xs hown ad m c news hl hnews h1 h63 hbytes hbase
    have hm := append_moved base t o.type e i z size bytes ht hi hz hs1 hb1 hzs hsz v n xs hown ad m c news hl hnews h1 h63 hbytes v' w' hr
    unfold Oper.wp execOp
    simp only [ho, resolve, invoke, builtin, Sem.run_bind, Sem.run_pure, Result.andThen_ok, List.map_toArray, List.map_cons, List.map_nil, hs, hx, hr]
    exact hK _ _ (h v' w' h2 h3 hm)
/-- A slice that lies in no block p. -/
def Away (v : Value) (p : Option Nat) : Prop := ∀ g, v.ownBlock = some g → p ≠ some g
theorem Reads.grown {w w' : World} {v : Value} {xs : List Value} {row : Option Nat} (h : Reads w w.heap.size v xs) (hg : w.grownBy w' row) (ha : Away v row) : Reads w' w'.heap.size v xs := by
  obtain ⟨A, cap, rfl, h1, h2, h3, h4⟩ := h
  refine ⟨A, cap, rfl, h1, h2, h3, fun hn => ?_⟩
  obtain ⟨ad, rfl, hl, hc⟩ := h4 hn
  refine ⟨ad, rfl, Nat.lt_of_lt_of_le hl hg.size, fun j u hu => ?_⟩
  have hb := hg.block ad.block hl (fun e => ha ad.block rfl e.symm)
  have hcj := hc j u hu
  unfold World.cell? at hcj ⊢
  rw [add_block] at hcj ⊢
  rw [hb]
  exact hcj
theorem Reads.lt {w : World} {B : Nat} {v : Value} {xs : List Value} (h : Reads w B v xs) : ∀ g, v.ownBlock = some g → 0 < xs.length → g < B := by
  obtain ⟨A, cap, rfl, h1, h2, h3, h4⟩ := h
  intro g hg hn
  obtain ⟨ad, rfl, hl, _⟩ := h4 hn
  cases hg; exact hl
structure Item where
  v : Value
  xs : List Int
  tag : ByteArray
  text : ByteArray
def Item.enc (it : Item) : List Value := [it.v, .string it.tag, .string it.text]
structure Item.OK (it : Item) (w : World) (p : Option Nat) : Prop where
  slice : ∃ A n cap, it.v = .slice A n cap
  reads : Reads w w.heap.size it.v (ints it.xs)
  away : Away it.v p
  low : ∀ g, it.v.ownBlock = some g → g < w.heap.size
  ok : okS it.text = true
  ver : verOf it.text = (it.xs, it.tag.data.toList)
  short : it.tag.size ≤ 16
theorem Item.OK.below {it : Item} {w w' : World} {p : Option Nat} (h : it.OK w p) (hb : Below w.heap.size w w') : it.OK w' p :=
  ⟨h.slice, (h.reads.below hb).more hb.size, h.away, fun g hg => Nat.lt_of_lt_of_le (h.low g hg) hb.size, h.ok, h.ver, h.short⟩
theorem Item.OK.grown {it : Item} {w w' : World} {v v' : Value} (h : it.OK w v.ownBlock) (hg : w.grownBy w' v.ownBlock) (hm : Moved w v v') : it.OK w' v'.ownBlock := by
  refine ⟨h.slice, h.reads.grown hg h.away, fun g hg' => ?_, fun g hg' => Nat.lt_of_lt_of_le (h.low g hg') hg.size, h.ok, h.ver, h.short⟩
  rcases hm with e | ⟨k, e, hk⟩
  · rw [e]; exact h.away g hg'
  · rw [e]; intro e2; cases e2; have := h.low g hg'; omega
def encs (l : List Item) : List Value := (l.map Item.enc).flatten
theorem encs_snoc (l : List Item) (x : Item) : encs (l ++ [x]) = encs l ++ x.enc := by simp [encs]
theorem encs_len (l : List Item) : (encs l).length = l.length * 3 := by
  induction l with
  | nil => rfl
  | cons x l ih =>
    rw [show encs (x :: l) = x.enc ++ encs l from rfl, List.length_append, ih, List.length_cons]
    simp [Item.enc]; omega
end Go.Proofs.YtijepjoklmblhaaDoor
