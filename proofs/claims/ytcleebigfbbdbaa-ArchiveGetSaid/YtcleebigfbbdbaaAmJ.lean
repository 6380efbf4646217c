/- archive: trees whose rows lie in some blocks alone. -/
import Derived.Test.YtcleebigfbbdbaaArcI
set_option linter.unusedVariables false
set_option linter.unusedSimpArgs false
namespace Go.Proofs.Ytcleebigfbbdbaa
open Go Go.RowKit Go.BigFrame
open Fil (Es Nd Sp)

def CelS (w : World) (S : Nat → Prop) : Es → Addr → Prop
  | .nil, _ => True
  | .cons nm k d s n, ad => w.cell? ad = some (.string nm) ∧ w.cell? (ad.add 1) = some (.int .u8 (k : Int)) ∧ w.cell? (ad.add 2) = some (.string d) ∧ nm.size ≤ maxLen ∧ d.size ≤ maxLen ∧ k < 256 ∧
      (∃ (A : Option Addr) (cap : Nat), w.cell? (ad.add 3) = some (.slice A s.len cap) ∧ s.len ≤ cap ∧ cap ≤ maxLen ∧ (A = none → cap = 0) ∧ (0 < s.len → ∃ a, A = some a ∧ S a.block ∧ CelS w S s a)) ∧ CelS w S n (ad.add 4)
def EsS (w : World) (S : Nat → Prop) (v : Value) (e : Es) : Prop :=
  ∃ (A : Option Addr) (cap : Nat), v = .slice A e.len cap ∧ e.len ≤ cap ∧ cap ≤ maxLen ∧ (A = none → cap = 0) ∧ (0 < e.len → ∃ a, A = some a ∧ S a.block ∧ CelS w S e a)
def NdS (w : World) (S : Nat → Prop) (v : Value) (n : Nd) : Prop :=
  ∃ ev, v = .agg #[.int .u8 (n.k : Int), .string n.d, ev] ∧ EsS w S ev n.es ∧ n.d.size ≤ maxLen ∧ n.k < 256
theorem CelS.keep {w w' : World} {S S' : Nat → Prop} (hs : ∀ b, S b → S' b ∧ w'.heap[b]? = w.heap[b]?) : ∀ (e : Es) (ad : Addr), w'.heap[ad.block]? = w.heap[ad.block]? → CelS w S e ad → CelS w' S' e ad
  | .nil, _, _, _ => trivial
  | .cons nm k d s n, ad, hb, h => by
    obtain ⟨h0, h1, h2, h3, h4, h5, ⟨A, cap, h6, h7, h8, h9, h10⟩, h11⟩ := h
    have hc : ∀ j, w'.cell? (ad.add j) = w.cell? (ad.add j) := fun j => World.cell?_of_block (by rw [addB]; exact hb)
    refine ⟨(World.cell?_of_block hb).trans h0, (hc 1).trans h1, (hc 2).trans h2, h3, h4, h5, ⟨A, cap, (hc 3).trans h6, h7, h8, h9, fun hp => ?_⟩, CelS.keep hs n _ (by rw [addB]; exact hb) h11⟩
    obtain ⟨a, ha, hla, hca⟩ := h10 hp
    exact ⟨a, ha, (hs _ hla).1, CelS.keep hs s a (hs _ hla).2 hca⟩
theorem EsS.keep {w w' : World} {S S' : Nat → Prop} (hs : ∀ b, S b → S' b ∧ w'.heap[b]? = w.heap[b]?) {v : Value} {e : Es} (h : EsS w S v e) : EsS w' S' v e := by
  obtain ⟨A, cap, h1, h2, h3, h4, h5⟩ := h
  refine ⟨A, cap, h1, h2, h3, h4, fun hp => ?_⟩
  obtain ⟨a, ha, hla, hc⟩ := h5 hp
  exact ⟨a, ha, (hs _ hla).1, hc.keep hs _ _ (hs _ hla).2⟩
theorem NdS.keep {w w' : World} {S S' : Nat → Prop} (hs : ∀ b, S b → S' b ∧ w'.heap[b]? = w.heap[b]?) {v : Value} {n : Nd} (h : NdS w S v n) : NdS w' S' v n := by
  obtain ⟨ev, h1, h2, h3⟩ := h
  exact ⟨ev, h1, h2.keep hs, h3⟩
theorem CelS.at {w : World} {S : Nat → Prop} {B : Nat} (hs : ∀ b, S b → b < B) : ∀ (e : Es) (ad : Addr), CelS w S e ad → CellsAt w B e ad
  | .nil, _, _ => trivial
  | .cons nm k d s n, ad, h => by
    obtain ⟨h0, h1, h2, h3, h4, h5, ⟨A, cap, h6, h7, h8, h9, h10⟩, h11⟩ := h
    refine ⟨h0, h1, h2, h3, h4, h5, ⟨A, cap, h6, h7, h8, h9, fun hp => ?_⟩, CelS.at hs n _ h11⟩
    obtain ⟨a, ha, hla, hca⟩ := h10 hp
    exact ⟨a, ha, hs _ hla, CelS.at hs s a hca⟩
theorem EsS.at {w : World} {S : Nat → Prop} {B : Nat} (hs : ∀ b, S b → b < B) {v : Value} {e : Es} (h : EsS w S v e) : EsAt w B v e := by
  obtain ⟨A, cap, h1, h2, h3, h4, h5⟩ := h
  refine ⟨A, cap, h1, h2, h3, h4, fun hp => ?_⟩
  obtain ⟨a, ha, hla, hc⟩ := h5 hp
  exact ⟨a, ha, hs _ hla, hc.at hs⟩
theorem NdS.at {w : World} {S : Nat → Prop} {B : Nat} (hs : ∀ b, S b → b < B) {v : Value} {n : Nd} (h : NdS w S v n) : NdV w B v n := by
  obtain ⟨ev, h1, h2, h3⟩ := h
  exact ⟨ev, h1, h2.at hs, h3⟩
theorem EsS.form {w : World} {S : Nat → Prop} {v : Value} {e : Es} (h : EsS w S v e) : ∃ A cap, v = .slice A e.len cap ∧ e.len ≤ cap ∧ cap ≤ maxLen := by
  obtain ⟨A, cap, h1, h2, h3, _⟩ := h
  exact ⟨A, cap, h1, h2, h3⟩
theorem EsS.nil (w : World) (S : Nat → Prop) : EsS w S (.slice none 0 0) .nil := ⟨none, 0, rfl, Nat.le_refl _, Nat.zero_le _, fun _ => rfl, fun h => absurd h (Nat.lt_irrefl 0)⟩
def EntS (w : World) (S : Nat → Prop) : Es → List Value → Prop
  | .nil, xs => xs = []
  | .cons nm k d s nx, xs => ∃ sv xs', xs = .string nm :: .int .u8 (k : Int) :: .string d :: sv :: xs' ∧ nm.size ≤ maxLen ∧ d.size ≤ maxLen ∧ k < 256 ∧ EsS w S sv s ∧ EntS w S nx xs'
theorem EntS.keep {w w' : World} {S S' : Nat → Prop} (hs : ∀ b, S b → S' b ∧ w'.heap[b]? = w.heap[b]?) : ∀ {es : Es} {xs : List Value}, EntS w S es xs → EntS w' S' es xs
  | .nil, _, h => h
  | .cons nm k d s nx, _, h => by
    obtain ⟨sv, xs', h1, h2, h3, h4, he, h6⟩ := h
    exact ⟨sv, xs', h1, h2, h3, h4, he.keep hs, EntS.keep hs h6⟩
theorem EntS.app {w : World} {S : Nat → Prop} : ∀ {a b : Es} {xs ys : List Value}, EntS w S a xs → EntS w S b ys → EntS w S (appE a b) (xs ++ ys)
  | .nil, _, _, _, h, k => by rw [show _ = [] from h]; exact k
  | .cons nm k' d s nx, _, _, _, h, k => by
    obtain ⟨sv, xs', rfl, h2, h3, h4, he, h6⟩ := h
    exact ⟨sv, xs' ++ _, rfl, h2, h3, h4, he, EntS.app h6 k⟩
theorem entS_cells {w : World} {S : Nat → Prop} : ∀ {es : Es} {xs : List Value} {ab ao : Nat}, EntS w S es xs → (∀ j u, xs[j]? = some u → w.cell? ⟨ab, ao + j, none⟩ = some u) → CelS w S es ⟨ab, ao, none⟩
  | .nil, _, _, _, _, _ => trivial
  | .cons nm k d s nx, _, ab, ao, h, hc => by
    obtain ⟨sv, xs', rfl, h2, h3, h4, ⟨A, cap, rfl, h7, h8, h9, h10⟩, h6⟩ := h
    refine ⟨hc 0 _ rfl, by rw [add_none]; exact hc 1 _ rfl, by rw [add_none]; exact hc 2 _ rfl, h2, h3, h4, ⟨A, cap, by rw [add_none]; exact hc 3 _ rfl, h7, h8, h9, h10⟩, ?_⟩
    rw [add_none]
    refine entS_cells h6 fun j u hu => ?_
    have := hc (j + 4) u (by simpa using hu)
    rwa [show ao + (j + 4) = ao + 4 + j by omega] at this
/-- A row of the call's own, as a tree's row. -/
theorem ownS_cells {w : World} {base n : Nat} {v : Value} {es : Es} {xs : List Value} {S : Nat → Prop} (h : w.ownsRow base 42 4 v n xs) (hn : n = es.len) (hl : EntS w S es xs) (hS : ∀ b, v.ownBlock = some b → S b) : EsS w S v es := by
  subst hn
  rcases h.2 with ⟨rfl, h0⟩ | ⟨g, cap, cur, rfl, hg, hgg, hnc, hcm, hcs, htk⟩
  · exact ⟨none, 0, by rw [h0], by omega, Nat.zero_le _, fun _ => rfl, fun hp => by omega⟩
  · refine ⟨_, _, rfl, hnc, hcm, (fun e => by cases e), fun _ => ⟨_, rfl, hS g rfl, entS_cells hl fun j u hu => ?_⟩⟩
    have := h.cells (g := g) rfl j u hu
    rwa [add_none] at this
theorem app_nil : ∀ a : Es, appE a .nil = a
  | .nil => rfl
  | .cons nm k d s nx => by show Es.cons nm k d s (appE nx .nil) = _; rw [app_nil nx]
theorem app_assoc : ∀ a b c : Es, appE (appE a b) c = appE a (appE b c)
  | .nil, _, _ => rfl
  | .cons nm k d s nx, b, c => by show Es.cons nm k d s (appE (appE nx b) c) = Es.cons nm k d s (appE nx (appE b c)); rw [app_assoc nx b c]
/-- Rows that have become, between two worlds. -/
def Nw (w W : World) (b : Nat) : Prop := w.heap.size ≤ b ∧ b < W.heap.size
end Go.Proofs.Ytcleebigfbbdbaa

/- archive: the reference's getDir. -/
namespace Go.Proofs.Ytcleebigfbbdbaa
open Go Go.RowKit Go.BigFrame
open Fil (Es Nd Sp)
open Arc (BL num4 num2 encT letK encE encN sizE sizN rfN rdN rfE rdE rdT rd2 beN)

theorem node_results3 {fn : Func} {p u q : Tmp} (hfn : fn.results = #[.cell p 24, .tmp u, .tmp q]) {W : World} {g : Nat} {cs : Array Value} {t : Array Value} (hcs : cs.size = 3) (h : W.heap[g]? = some (.cells cs 24 (0, 0))) (hp : t.getD p undef = .pointer (some ⟨g, 0, none⟩)) :
    (results fn t).run Try.prog W = .ok (.tuple #[.agg cs, t.getD u undef, t.getD q undef]) W := by
  have hi : (Try.prog.info? 24).map (·.size) = some cs.size := by rw [hcs]; kernel_rfl
  have hp' : t[p]?.getD undef = .pointer (some ⟨g, 0, none⟩) := by simpa using hp
  simp [results, hfn, hp', asAddr, run_loadVar_row W g _ 24 cs (0, 0) _ h Try.underlying24 (by rfl) hi]
def GnPost (w : World) (r : Option (Nd × BL)) (l : BL) (e : Ending) (W : World) : Prop :=
  Below w.heap.size w W ∧ ∃ (v : Value) (y : Nd) (next : Nat) (ok : Bool), e = .returned (.tuple #[v, .int .i64 (next : Int), .bool ok]) ∧ NdS W (Nw w W) v y ∧ (match r with | none => ok = false | some p => ok = true ∧ p = (y, l.drop next) ∧ next ≤ l.length)
def dirF (f : Nat) (b : BL) : Option (Nd × BL) := match rd2 b with
  | none => none
  | some (k, b2) => match rfE (rfN f) k b2 with
    | none => none
    | some (es, b3) => some (⟨4, ⟨#[]⟩, es⟩, b3)
/-- Between two entries. -/
structure DirI (w wx : World) (node : BL → Option (Nd × BL)) (l : BL) (cnt : Nat) (b2 : BL) (i at' : Nat) (done : Es) (vs : Value) : Prop where
  box6 : wx.heap[w.heap.size]? = some (.cells #[.int .u8 0, .string ⟨#[]⟩, .slice none 0 0] 24 (0, 0))
  box9 : wx.heap[w.heap.size + 1]? = some (ndCells 4 ⟨#[]⟩ vs)
  own : ∃ xs, wx.ownsRow (w.heap.size + 2) 42 4 vs i xs ∧ EntS wx (fun b => w.heap.size + 2 ≤ b ∧ b < wx.heap.size ∧ vs.ownBlock ≠ some b) done xs
  len : done.len = i
  below : Below w.heap.size w wx
  size : w.heap.size + 2 ≤ wx.heap.size
  le : at' ≤ l.length
  rest : rfE node cnt b2 = (match rfE node (cnt - i) (l.drop at') with | none => none | some p => some (appE done p.1, p.2))
  few : i ≤ cnt
theorem DirI.step {w wx W : World} {node : BL → Option (Nd × BL)} {l : BL} {cnt : Nat} {b2 : BL} {i at' : Nat} {done : Es} {vs : Value} (h : DirI w wx node l cnt b2 i at' done vs) (hb : Below wx.heap.size wx W) : DirI w W node l cnt b2 i at' done vs := by
  obtain ⟨xs, h1, h2⟩ := h.own
  refine ⟨(hb.block _ (block_lt h.box6)).trans h.box6, (hb.block _ (block_lt h.box9)).trans h.box9, ⟨xs, own_below h1 hb (Nat.le_refl _), h2.keep fun b hs => ⟨⟨hs.1, Nat.lt_of_lt_of_le hs.2.1 hb.size, hs.2.2⟩, hb.block b hs.2.1⟩⟩, h.len, h.below.trans (hb.mono (by have := h.size; omega)), Nat.le_trans h.size hb.size, h.le, h.rest, h.few⟩
theorem DirI.es {w wx : World} {node : BL → Option (Nd × BL)} {l : BL} {cnt : Nat} {b2 : BL} {i at' : Nat} {done : Es} {vs : Value} (h : DirI w wx node l cnt b2 i at' done vs) : EsS wx (Nw w wx) vs done := by
  obtain ⟨xs, h1, h2⟩ := h.own
  refine ownS_cells h1 h.len.symm (h2.keep fun b hs => ⟨⟨by omega, hs.2.1⟩, rfl⟩) fun b hb => ⟨by have := (h1.lt b hb).1; omega, (h1.lt b hb).2⟩
theorem app_len1 : ∀ (a : Es) (s : ByteArray) (k : Nat) (d : ByteArray) (e : Es), (appE a (.cons s k d e .nil)).len = a.len + 1
  | .nil, _, _, _, _ => rfl
  | .cons nm k' d' s' nx, s, k, d, e => by show (appE nx _).len + 1 = nx.len + 1 + 1; rw [app_len1 nx]
theorem DirI.push {w W w1 : World} {node : BL → Option (Nd × BL)} {l : BL} {cnt : Nat} {b2 : BL} {i at' at2 next : Nat} {done : Es} {vs sv : Value} {s : ByteArray} {y : Nd} {Q : Nat → Prop} {xs : List Value} {g cap : Nat} {o : Obj}
    (h : DirI w W node l cnt b2 i at' done vs) (hx : W.ownsRow (w.heap.size + 2) 42 4 vs i xs) (hent : EntS W (fun b => w.heap.size + 2 ≤ b ∧ b < W.heap.size ∧ vs.ownBlock ≠ some b) done xs)
    (hi : i < cnt) (hs : s.size ≤ maxLen) (hT : rdT (l.drop at') = some (s, l.drop at2)) (hN : node (l.drop at2) = some (y, l.drop next)) (hnext : next ≤ l.length)
    (hy : EsS W Q sv y.es) (hQ : ∀ b, Q b → w.heap.size + 2 ≤ b ∧ b < W.heap.size ∧ vs.ownBlock ≠ some b) (hyd : y.d.size ≤ maxLen) (hyk : y.k < 256)
    (hown1 : w1.ownsRow (w.heap.size + 2) 42 4 (.slice (some ⟨g, 0, none⟩) (i + 1) cap) (i + 1) (xs ++ [.string s, .int .u8 (y.k : Int), .string y.d, sv])) (hg : (W.alloc o).grownBy w1 vs.ownBlock) (hat : vs.ownBlock = some g ∨ g = (W.alloc o).heap.size) :
    DirI w (w1.setCell ⟨w.heap.size + 1, 2, none⟩ (.slice (some ⟨g, 0, none⟩) (i + 1) cap)) node l cnt b2 (i + 1) next (appE done (.cons s y.k y.d y.es .nil)) (.slice (some ⟨g, 0, none⟩) (i + 1) cap) := by
  have hz := h.size
  have hgz := hg.size
  have hal : (W.alloc o).heap.size = W.heap.size + 1 := by simp
  rw [hal] at hgz hat
  have hbase : ∀ b, vs.ownBlock = some b → w.heap.size + 2 ≤ b := fun b hb => (hx.lt b hb).1
  have hblk : ∀ b, b < W.heap.size → vs.ownBlock ≠ some b → w1.heap[b]? = W.heap[b]? := fun b hb hn => (hg.block b (by rw [hal]; omega) (fun e => hn e.symm)).trans (old_block _ _ _ hb)
  have hgb : w.heap.size + 2 ≤ g := (hown1.lt g rfl).1
  have hset : ∀ b, b ≠ w.heap.size + 1 → (w1.setCell ⟨w.heap.size + 1, 2, none⟩ (.slice (some ⟨g, 0, none⟩) (i + 1) cap)).heap[b]? = w1.heap[b]? := fun b hb => heap_setCell_other _ _ _ _ hb
  have hzz : (w1.setCell ⟨w.heap.size + 1, 2, none⟩ (.slice (some ⟨g, 0, none⟩) (i + 1) cap)).heap.size = w1.heap.size := by simp
  have hkeep : ∀ b, (w.heap.size + 2 ≤ b ∧ b < W.heap.size ∧ vs.ownBlock ≠ some b) → (w.heap.size + 2 ≤ b ∧ b < (w1.setCell ⟨w.heap.size + 1, 2, none⟩ (.slice (some ⟨g, 0, none⟩) (i + 1) cap)).heap.size ∧ (Value.slice (some ⟨g, 0, none⟩) (i + 1) cap).ownBlock ≠ some b) ∧ (w1.setCell ⟨w.heap.size + 1, 2, none⟩ (.slice (some ⟨g, 0, none⟩) (i + 1) cap)).heap[b]? = W.heap[b]? := fun b hb => by
    refine ⟨⟨hb.1, by rw [hzz]; omega, fun e => ?_⟩, (hset b (by omega)).trans (hblk b hb.2.1 hb.2.2)⟩
    have e' : g = b := by simpa [Value.ownBlock] using e
    rcases hat with ha | ha
    · exact hb.2.2 (by rw [ha, e'])
    · omega
  have hne0 : vs.ownBlock ≠ some w.heap.size := fun e => by have := hbase _ e; omega
  have hne1 : vs.ownBlock ≠ some (w.heap.size + 1) := fun e => by have := hbase _ e; omega
  have hnew : Value.ownBlock (.slice (some ⟨g, 0, none⟩) (i + 1) cap) ≠ some (w.heap.size + 1) := fun e => by
    have e' : g = w.heap.size + 1 := by simpa [Value.ownBlock] using e
    omega
  refine ⟨?_, ?_, ⟨xs ++ [.string s, .int .u8 (y.k : Int), .string y.d, sv], ?_, ?_⟩, ?_, ?_, by rw [hzz]; omega, hnext, ?_, by omega⟩
  · exact (hset _ (by omega)).trans ((hblk _ (by omega) hne0).trans h.box6)
  · exact Go.Joins.block_setCell (i := 2) ((hblk _ (by omega) hne1).trans h.box9) _
  · exact ownsRow_setCell_other hown1 (a := ⟨w.heap.size + 1, 2, none⟩) hnew _
  · exact EntS.app (hent.keep hkeep) ⟨sv, [], rfl, hs, hyd, hyk, hy.keep fun b hb => hkeep b (hQ b hb), rfl⟩
  · rw [app_len1, h.len]
  · refine h.below.trans ?_
    have h1 : Below w.heap.size W w1 := (((Below.refl w.heap.size W).alloc (by omega) o).grown hg (by rw [hal]; omega) (fun k e => by have := hbase k e; omega))
    exact h1.setCell (p := ⟨w.heap.size + 1, 2, none⟩) (by show w.heap.size ≤ w.heap.size + 1; omega) _
  · rw [h.rest, show cnt - i = (cnt - (i + 1)) + 1 by omega]
    have : rfE node (cnt - (i + 1) + 1) (l.drop at') = (match rfE node (cnt - (i + 1)) (l.drop next) with | none => none | some p => some (.cons s y.k y.d y.es p.1, p.2)) := by
      show (match rdT (l.drop at') with | none => none | some (s, b2) => match node b2 with | none => none | some (y, b3) => match rfE node (cnt - (i + 1)) b3 with | none => none | some (es, b4) => some (Es.cons s y.k y.d y.es es, b4)) = _
      rw [hT]
      simp only []
      rw [hN]
      simp only []
      cases rfE node (cnt - (i + 1)) (l.drop next) <;> rfl
    rw [this]
    cases hE : rfE node (cnt - (i + 1)) (l.drop next) with
    | none => rfl
    | some p =>
      simp only []
      rw [app_assoc]
      rfl
end Go.Proofs.Ytcleebigfbbdbaa
