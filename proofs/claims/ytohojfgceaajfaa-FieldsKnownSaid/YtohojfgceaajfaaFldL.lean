/- Two rows beside a writer; what all things have together. -/
import Derived.Test.YtohojfgceaajfaaFldK
namespace Go.Proofs.Ytohojfgceaajfaa
open Go.RowKit

/-- A writer, and another row of the same bytes. -/
structure Two (w : World) (g base : Nat) (v vw : Value) (L : Nat) (d : Nat → Nat) : Prop where
  wr : Wr w g base v L d
  own : w.ownsRow base 5 1 vw L (cells d L)
  apart : ∀ b, v.ownBlock = some b → vw.ownBlock ≠ some b
  ne : vw.ownBlock ≠ some g
theorem own_kept {w w' : World} {base n g : Nat} {r : Option Nat} {e : TypeId} {v : Value} {xs : List Value} (h : w.ownsRow base e 1 v n xs) (hk : KeptBut w w' g r) (h1 : v.ownBlock ≠ some g) (h2 : ∀ b, v.ownBlock = some b → r ≠ some b) : w'.ownsRow base e 1 v n xs := by
  obtain ⟨hl, h0 | ⟨q, cap, cur, rfl, hq, hgg, r1, r2, r3, r4⟩⟩ := h
  · exact ⟨hl, .inl h0⟩
  · exact ⟨hl, .inr ⟨q, cap, cur, rfl, hq, (hk.block q (block_lt hgg) (fun e => h1 (by rw [e]; rfl)) (fun e => h2 q rfl e.symm)).trans hgg, r1, r2, r3, r4⟩⟩
theorem Wr.kept {w w' : World} {g base g' L : Nat} {v : Value} {d : Nat → Nat} {r : Option Nat} (h : Wr w g base v L d) (hk : KeptBut w w' g' r) (h1 : g ≠ g') (h2 : r ≠ some g) (h3 : v.ownBlock ≠ some g') (h4 : ∀ b, v.ownBlock = some b → r ≠ some b) : Wr w' g base v L d :=
  ⟨(hk.block g h.lt h1 (fun e => h2 e.symm)).trans h.1, own_kept h.2.1 hk h3 h4, h.2.2⟩
theorem Two.kept {w w' : World} {g base g' L : Nat} {v vw : Value} {d : Nat → Nat} (h : Two w g base v vw L d) (hk : KeptBut w w' g' none) (h1 : g ≠ g') (h3 : v.ownBlock ≠ some g') (h4 : vw.ownBlock ≠ some g') : Two w' g base v vw L d :=
  ⟨h.wr.kept hk h1 (fun e => by cases e) h3 (fun _ _ e => by cases e), own_kept h.own hk h4 (fun _ _ e => by cases e), h.apart, h.ne⟩
theorem Two.below {w w' : World} {g base L : Nat} {v vw : Value} {d : Nat → Nat} (h : Two w g base v vw L d) (hb : Below w.heap.size w w') : Two w' g base v vw L d :=
  ⟨h.wr.below hb, own_below h.own hb (Nat.le_refl _), h.apart, h.ne⟩
/-- Behind a put, and the other row. -/
theorem Two.put {w w' : World} {g base L L' : Nat} {v vw : Value} {d d' : Nat → Nat} (h : Two w g base v vw L d) (hp : Put w g base v L' d' w') :
    ∃ v', Wr w' g base v' L' d' ∧ w'.ownsRow base 5 1 vw L (cells d L) ∧ (∀ b, v'.ownBlock = some b → vw.ownBlock ≠ some b) ∧ Moved w v v' ∧ KeptBut w w' g v.ownBlock := by
  obtain ⟨v', h1, h2, h3⟩ := hp
  refine ⟨v', h1, own_kept h.own h2 h.ne (fun b hb e => h.apart b e hb), fun b hb e => ?_, h3, h2⟩
  have hlt := (h.own.lt b e).2
  exact h3.ne hlt (fun e2 => h.apart b e2 e) hb
/-- Behind an append to the other row. -/
theorem Two.app {w w' : World} {g base L L' : Nat} {v vw vw' : Value} {d d' : Nat → Nat} (hW : Wr w g base v L' d') (hap : ∀ b, v.ownBlock = some b → vw.ownBlock ≠ some b) (hne : vw.ownBlock ≠ some g) (hown : w'.ownsRow base 5 1 vw' L' (cells d' L')) (hgr : w.grownBy w' vw.ownBlock) (hmv : Moved w vw vw') (_h : L ≤ L') (_h2 : ∀ i, d i = d i) :
    Two w' g base v vw' L' d' := by
  refine ⟨⟨(hgr.block g hW.lt (fun e => hne e.symm)).trans hW.1, hW.2.1.kept hgr ?_, hW.2.2⟩, hown, fun b hb => hmv.ne (hW.2.1.lt b hb).2 (hap b hb), hmv.ne hW.lt hne⟩
  cases hb : v.ownBlock with
  | none => exact .inl rfl
  | some b => exact .inr (fun e => hap b hb e.symm)

/-- What all things have together. -/
def totL (x : Nat → It) : Nat → Nat
  | 0 => 0
  | i + 1 => totL x i + itLen (x i)
def totD (x : Nat → It) : Nat → Nat → Nat
  | 0 => fun _ => 0
  | i + 1 => joinD (totL x i) (totD x i) (itB (x i))
theorem itLen_le (x : It) : itLen x ≤ x.n + 8 := by
  unfold itLen
  split
  · omega
  · have := (wd_le (x.kind % 5)).2; omega
theorem totL_le (x : Nat → It) (i : Nat) : totL x i ≤ sumN x i + 8 * i := by
  induction i with
  | zero => exact Nat.le_refl _
  | succ i ih => have := itLen_le (x i); rw [totL, sumN]; omega
theorem itB_lt (x : It) (h : ∀ i, x.d i < 256) (i : Nat) : itB x i < 256 := by
  unfold itB
  split
  · exact h i
  · exact numB_lt _ _ _
theorem totD_lt (x : Nat → It) (ln : Nat) (h : ∀ k, k < ln → ∀ i, (x k).d i < 256) (k : Nat) (hk : k ≤ ln) (i : Nat) : totD x k i < 256 := by
  induction k generalizing i with
  | zero => exact Nat.zero_lt_succ _
  | succ k ih => exact join_lt _ _ _ (fun i => ih (by omega) i) (itB_lt _ (h k (by omega))) i
theorem itLen_of (x y : It) (hk : x.kind = y.kind) (hn : x.n = y.n) : itLen x = itLen y := by unfold itLen; rw [hk, hn]
theorem itB_of (x y : It) (hk : x.kind = y.kind) (hn : x.num = y.num) (hd : x.d = y.d) : itB x = itB y := by unfold itB; rw [hk, hn, hd]
/-- A thing's cells, as a load of the whole wants them. -/
theorem items_cells {w : World} {B ln : Nat} {LA : Option Addr} {x : Nat → It} {k : Nat} (h : Items w B LA ln x) (hk : k < ln) :
    ∃ ad, LA = some ad ∧ ad.block < B ∧ ItOk w B (x k) ∧ ∀ j u, (#[.int .u8 ((x k).kind : Int), .int .u64 ((x k).num : Int), .slice (x k).A (x k).n (x k).cap] : Array Value)[j]? = some u → w.cell? ((ad.add (k * 3)).add j) = some u := by
  obtain ⟨ad, e, hl, hi⟩ := h (by omega)
  exact ⟨ad, e, hl, (hi k hk).1, (hi k hk).2⟩
theorem infoI : (Try.prog.info? 30).map (·.size) = some 3 := by kernel_rfl
end Go.Proofs.Ytohojfgceaajfaa
