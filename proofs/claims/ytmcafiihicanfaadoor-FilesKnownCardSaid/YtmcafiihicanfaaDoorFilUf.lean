/- files: FilesKnown: a round of the wide row (region 29): what its operations do. -/
import Derived.Test.YtmcafiihicanfaaDoorFilUe
import Derived.Test.YtmcafiihicanfaaDoorInvP
import Derived.Test.YtmcafiihicanfaaDoorInvG
namespace Go.Proofs.YtmcafiihicanfaaDoor
open Go Go.RowKit Go.BigFrame
open Fil (Es Nd Sp)

theorem wp_of_skip {P : Program} {Q : Exit → Act → World → Prop} {o : Oper} {K : Act → World → Prop} {a : Act} {w w' : World} (h : (execOp a.eval o).run P w = .ok .skip w') (hk : K (a.put o.dst undef) w') : o.wp P a w K Q := by
  unfold Oper.wp
  simp only [h, Oper.upon]
  exact hk
theorem grown_of {w w' : World} (h : Below w.heap.size w w') : w.grownBy w' none := ⟨h.os, h.tape, h.output, h.size, fun k hk _ => h.block k hk⟩
inductive Kw | val (v : Value) | byt | one | app | non
def cW3 (n : Nat) : Array Value := #[.int .u8 ((65 + n / 256 : Nat) : Int), .int .u8 ((97 + n / 16 % 16 : Nat) : Int), .int .u8 ((97 + n % 16 : Nat) : Int)]
def cW4 (n : Nat) : Array Value := #[.string (nmW n), .int .u8 1, .string ⟨#[]⟩, .slice none 0 0]
def RW (S b0 n : Nat) : Kw → Value → World → Prop
  | .val x, v, _ => v = x
  | .byt, v, w => ∃ r, v = .slice (some ⟨r, 0, none⟩) 3 3 ∧ S ≤ r ∧ w.heap[r]? = some (.cells (cW3 n) 5 (0, 0))
  | .one, v, w => ∃ r, v = .slice (some ⟨r, 0, none⟩) 1 1 ∧ S ≤ r ∧ w.heap[r]? = some (.cells (cW4 n) 48 (0, 0))
  | .app, v, w => w.ownsRow b0 48 4 v (n + 1) (wideL 0 (n + 1))
  | .non, _, _ => True
theorem RW.below {S b0 n : Nat} {k : Kw} {v : Value} {w w' : World} (h : RW S b0 n k v w) (hb : Below w.heap.size w w') : RW S b0 n k v w' := by
  cases k with
  | val x => exact h
  | non => trivial
  | byt => obtain ⟨r, e, h0, h1⟩ := h; exact ⟨r, e, h0, (hb.block r (block_lt h1)).trans h1⟩
  | one => obtain ⟨r, e, h0, h1⟩ := h; exact ⟨r, e, h0, (hb.block r (block_lt h1)).trans h1⟩
  | app => exact World.ownsRow.kept h (grown_of hb) (by cases v.ownBlock <;> simp)
theorem RW.grown {S b0 n : Nat} {k : Kw} {v : Value} {w w' : World} {row : Option Nat} (h : RW S b0 n k v w) (hk : k ≠ .app) (hg : w.grownBy w' row) (hr : ∀ g, row = some g → g < S) : RW S b0 n k v w' := by
  cases k with
  | val x => exact h
  | non => trivial
  | app => exact absurd rfl hk
  | byt => obtain ⟨r, e, h0, h1⟩ := h; exact ⟨r, e, h0, (hg.block r (block_lt h1) (fun e2 => by have := hr r e2.symm; omega)).trans h1⟩
  | one => obtain ⟨r, e, h0, h1⟩ := h; exact ⟨r, e, h0, (hg.block r (block_lt h1) (fun e2 => by have := hr r e2.symm; omega)).trans h1⟩
/-- What stands between two operations: 'b': the append is done. -/
def CW (wr : World) (b0 n : Nat) (v : Value) (b : Bool) (w : World) : Prop :=
  KeepW wr b0 w ∧ wr.heap.size ≤ w.heap.size ∧ (b = false → w.ownsRow b0 48 4 v n (wideL 0 n))
theorem CW.step {wr : World} {b0 n : Nat} {v : Value} {b : Bool} {w w' : World} (h : CW wr b0 n v b w) (hb : Below w.heap.size w w') : CW wr b0 n v b w' :=
  ⟨h.1.step hb, Nat.le_trans h.2.1 hb.size, fun e => World.ownsRow.kept (h.2.2 e) (grown_of hb) (by cases v.ownBlock <;> simp)⟩
theorem own_lt {w : World} {b0 n : Nat} {v : Value} {xs : List Value} (h : w.ownsRow b0 48 4 v n xs) : ∀ g, v.ownBlock = some g → b0 ≤ g ∧ g < w.heap.size := by
  intro g hg
  rcases h.2 with ⟨rfl, _⟩ | ⟨g', cap, cur, rfl, hb, hgg, _⟩
  · cases hg
  · cases hg
    exact ⟨hb, block_lt hgg⟩
theorem CW.grown {wr : World} {b0 n : Nat} {v : Value} {w w' : World} (h : CW wr b0 n v false w) (hg : w.grownBy w' v.ownBlock) (hv : ∀ g, v.ownBlock = some g → b0 ≤ g) : CW wr b0 n v true w' := by
  refine ⟨⟨?_, Nat.le_trans h.1.2 hg.size⟩, Nat.le_trans h.2.1 hg.size, fun e => by cases e⟩
  have hb : Below b0 w w' := ⟨hg.os, hg.tape, hg.output, hg.size, fun k hk => hg.block k (Nat.lt_of_lt_of_le hk h.1.2) (fun e => by have := hv k e.symm; omega)⟩
  exact h.1.1.trans hb
theorem quo_n (n q : Nat) (hn : n < 1000000) (hq : 0 < q) (hq2 : q < 1000) (w : World) : ((fun v => Next.value v) <$> binOp BinOp.quo 3 (.int .i64 (n : Int)) (.int .i64 (q : Int))).run Tryd.prog w = .ok (.value (.int .i64 ((n / q : Nat) : Int))) w := by
  have h2 : n / q ≤ n := Nat.div_le_self _ _
  have h3 : IntKind.i64.wrap ((n : Int) / (q : Int)) = (n : Int) / (q : Int) := by
    rw [← Int.natCast_ediv]
    generalize n / q = m at *
    exact IntWalk.i64_in _ (by omega)
  have h1 : (n : Int).tdiv (q : Int) = (n : Int) / (q : Int) := Int.tdiv_eq_ediv_of_nonneg (by omega)
  have h4 : ¬ q = 0 := by omega
  simp [go_sem, h4, h1, h3]
theorem rem_n (n q : Nat) (hn : n < 1000000) (hq : 0 < q) (hq2 : q < 1000) (w : World) : ((fun v => Next.value v) <$> binOp BinOp.rem 3 (.int .i64 (n : Int)) (.int .i64 (q : Int))).run Tryd.prog w = .ok (.value (.int .i64 ((n % q : Nat) : Int))) w := by
  have h2 : n % q ≤ n := Nat.mod_le _ _
  have h3 : IntKind.i64.wrap ((n : Int) % (q : Int)) = (n : Int) % (q : Int) := by
    rw [← Int.natCast_emod]
    generalize n % q = m at *
    exact IntWalk.i64_in _ (by omega)
  have h1 : (n : Int).tmod (q : Int) = (n : Int) % (q : Int) := Int.tmod_eq_emod_of_nonneg (by omega)
  have h4 : ¬ q = 0 := by omega
  simp [go_sem, h4, h1, h3]
theorem add_n (k n : Nat) (hn : n < 1000000) (hk : k < 1000) (w : World) : ((fun v => Next.value v) <$> binOp BinOp.add 3 (.int .i64 (k : Int)) (.int .i64 (n : Int))).run Tryd.prog w = .ok (.value (.int .i64 ((k + n : Nat) : Int))) w := by
  have h3 : IntKind.i64.wrap ((k : Int) + (n : Int)) = (k : Int) + (n : Int) := IntWalk.i64_in _ (by omega)
  simp [go_sem, h3]
theorem conv_n (n : Nat) (hn : n < 256) (w : World) : ((fun v => Next.value v) <$> convert 3 5 (.int .i64 (n : Int))).run Tryd.prog w = .ok (.value (.int .u8 (n : Int))) w := by
  have h3 : IntKind.u8.wrap (n : Int) = (n : Int) := by rw [IntKind.wrap_u8]; omega
  simp [go_sem, h3]
theorem conv3 {W : World} {r n : Nat} (h : W.heap[r]? = some (.cells (cW3 n) 5 (0, 0))) (hn : n < 4096) : (convert 45 9 (.slice (some ⟨r, 0, none⟩) 3 3)).run Tryd.prog W = .ok (.string (nmW n)) W := by
  have hH : Holds W W.heap.size (some ⟨r, 0, none⟩) 3 (fun i => [65 + n / 256, 97 + n / 16 % 16, 97 + n % 16].getD i 0) := fun _ => ⟨_, rfl, block_lt h, fun j hj => by
    rw [add_none, cell_of_row _ _ _ _ _ _ h]
    match j, hj with
    | 0, _ => rfl
    | 1, _ => rfl
    | 2, _ => rfl
    | i + 3, hi => exact absurd hi (by omega)⟩
  have hd : ∀ i, [65 + n / 256, 97 + n / 16 % 16, 97 + n % 16].getD i 0 < 256 := fun i => by
    match i with
    | 0 => show 65 + n / 256 < 256; omega
    | 1 => show 97 + n / 16 % 16 < 256; omega
    | 2 => show 97 + n % 16 < 256; omega
    | i + 3 => show (0 : Nat) < 256; omega
  exact convert_holds (P := Tryd.prog) (src := 45) (dst := 9) hd hH (fun e => by cases e) (Nat.le_refl _) Tryd.underlying45 Tryd.underlying5 Tryd.underlying9
inductive Kz | val (v : Value) | chn | tup | nod | box | non
def RZ (S : Nat) (n : Nd) : Kz → Value → World → Prop
  | .val x, v, _ => v = x
  | .chn, v, w => NdV w w.heap.size v n
  | .tup, v, _ => ∃ (k : Int) (d : ByteArray) (A : Option Addr) (l c : Nat), v = .tuple #[.agg #[.int .u8 k, .string d, .slice A l c], .int .i64 70]
  | .nod, v, _ => ∃ (k : Int) (d : ByteArray) (A : Option Addr) (l c : Nat), v = .agg #[.int .u8 k, .string d, .slice A l c]
  | .box, v, w => ∃ g x y z, v = .pointer (some ⟨g, 0, none⟩) ∧ S ≤ g ∧ w.heap[g]? = some (.cells #[x, y, z] 26 (0, 0))
  | .non, _, _ => True
theorem RZ.below {S : Nat} {n : Nd} {k : Kz} {v : Value} {w w' : World} (h : RZ S n k v w) (hb : Below w.heap.size w w') : RZ S n k v w' := by
  cases k with
  | val x => exact h
  | tup => exact h
  | nod => exact h
  | non => trivial
  | chn => exact NdV.below h hb
  | box => obtain ⟨g, x, y, z, e, h0, h1⟩ := h; exact ⟨g, x, y, z, e, h0, (hb.block g (block_lt h1)).trans h1⟩
theorem RZ.set {S : Nat} {n : Nd} {k : Kz} {v : Value} {w : World} {g : Nat} {x y z a b c : Value} (h : RZ S n k v w) (hg : w.heap[g]? = some (.cells #[x, y, z] 26 (0, 0))) : RZ S n k v (w.setRow g #[a, b, c]) := by
  cases k with
  | val x => exact h
  | tup => exact h
  | nod => exact h
  | non => trivial
  | chn =>
    obtain ⟨ev, e, hes, h2⟩ := h
    refine ⟨ev, e, ?_, h2⟩
    rw [setRow_size]
    exact hes.box hg (fun k hk => setRow_other _ _ _ _ hk)
  | box =>
    obtain ⟨g', x', y', z', e, h0, h1⟩ := h
    by_cases hk : g' = g
    · subst hk
      exact ⟨g', a, b, c, e, h0, setRow_heap _ _ _ _ _ _ hg⟩
    · exact ⟨g', x', y', z', e, h0, (setRow_other _ _ _ _ hk).trans h1⟩
end Go.Proofs.YtmcafiihicanfaaDoor
