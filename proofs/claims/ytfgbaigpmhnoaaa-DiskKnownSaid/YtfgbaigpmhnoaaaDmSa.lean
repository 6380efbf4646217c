/- disk: how the reference's disk lies in memory. -/
import Derived.Test.YtfgbaigpmhnoaaaDskU
import Derived.Test.YtfgbaigpmhnoaaaDskX
import Derived.Test.YtfgbaigpmhnoaaaDmX
import Derived.Laws.Cover1
set_option linter.unusedVariables false
set_option linter.unusedSimpArgs false
namespace Go.Proofs.Ytfgbaigpmhnoaaa
open Go.RowKit Go.BigFrame Go.Maps
open Dsk (Fl St Ok get put drop used)

/-- A file of the reference's: its name, what it holds, its bytes' slice. -/
structure En where
  s : ByteArray
  f : Fl
  v : Value
def En.cells (e : En) : List Value := [.string e.s, e.v, .int .i64 (e.f.sure : Int), .bool e.f.ever]
def enCells (es : List En) : List Value := es.flatMap En.cells
def fsOf (es : List En) : Dsk.FS := es.map fun e => (e.s, e.f)
theorem enCells_len (es : List En) : (enCells es).length = es.length * 4 := by
  induction es with
  | nil => rfl
  | cons e es ih => show (e.cells ++ enCells es).length = _; rw [List.length_append, ih, List.length_cons]; show 4 + _ = _; omega
theorem enCells_snoc (es : List En) (e : En) : enCells (es ++ [e]) = enCells es ++ e.cells := by simp [enCells]
theorem enCells_get (es : List En) (i : Nat) (h : i < es.length) (j : Nat) (u : Value) (hu : es[i].cells[j]? = some u) : (enCells es)[i * 4 + j]? = some u := by
  have hj : j < 4 := by have := (List.getElem?_eq_some_iff.1 hu).1; exact this
  induction es generalizing i with
  | nil => simp at h
  | cons e es ih =>
    show (e.cells ++ enCells es)[i * 4 + j]? = _
    cases i with
    | zero => rw [List.getElem?_append_left (by show _ < 4; omega)]; simpa using hu
    | succ i =>
      rw [List.getElem?_append_right (by show 4 ≤ _; omega)]
      have e4 : (i + 1) * 4 + j - e.cells.length = i * 4 + j := by show _ - 4 = _; omega
      rw [e4]
      exact ih i (by simpa using h) (by simpa using hu)
theorem fsOf_len (es : List En) : (fsOf es).length = es.length := by simp [fsOf]
theorem fsOf_get (es : List En) (i : Nat) (h : i < es.length) : (fsOf es)[i]'(by rw [fsOf_len]; exact h) = (es[i].s, es[i].f) := by simp [fsOf]
theorem fsOf_snoc (es : List En) (e : En) : fsOf (es ++ [e]) = fsOf es ++ [(e.s, e.f)] := by simp [fsOf]
/-- A row of bytes that lies in blocks of a kind. -/
def BAt (w : World) (Q : Nat → Prop) (v : Value) (l : List Nat) : Prop :=
  ∃ A cap, v = .slice A l.length cap ∧ l.length ≤ cap ∧ cap ≤ maxLen ∧ (A = none → cap = 0) ∧ (0 < l.length → ∃ ad, A = some ad ∧ Q ad.block ∧ ad.block < w.heap.size ∧ ∀ j, j < l.length → w.cell? (ad.add j) = some (.int .u8 ((l.getD j 0 : Nat) : Int)))
theorem BAt.nil (w : World) (Q : Nat → Prop) : BAt w Q (.slice none 0 0) [] := ⟨none, 0, rfl, Nat.le_refl _, by decide, fun _ => rfl, fun h => absurd h (by simp)⟩
theorem BAt.ch {w w' : World} {Q M : Nat → Prop} {v : Value} {l : List Nat} (h : BAt w Q v l) (hc : Ch w w' M) (hm : ∀ b, b < w.heap.size → Q b → ¬ M b) : BAt w' Q v l := by
  obtain ⟨A, cap, e, h1, h2, h3, h4⟩ := h
  refine ⟨A, cap, e, h1, h2, h3, fun h0 => ?_⟩
  obtain ⟨ad, e1, hq, hl, hcs⟩ := h4 h0
  exact ⟨ad, e1, hq, Nat.lt_of_lt_of_le hl hc.size, fun j hj => hc.cell (hcs j hj) (by rw [add_block]; exact hm _ hl hq)⟩
theorem BAt.mono {w : World} {Q Q' : Nat → Prop} {v : Value} {l : List Nat} (h : BAt w Q v l) (hq : ∀ b, b < w.heap.size → Q b → Q' b) : BAt w Q' v l := by
  obtain ⟨A, cap, e, h1, h2, h3, h4⟩ := h
  refine ⟨A, cap, e, h1, h2, h3, fun h0 => ?_⟩
  obtain ⟨ad, e1, hq1, hl, hcs⟩ := h4 h0
  exact ⟨ad, e1, hq _ hl hq1, hl, hcs⟩
theorem BAt.holds {w : World} {Q : Nat → Prop} {A : Option Addr} {n cap : Nat} {l : List Nat} (h : BAt w Q (.slice A n cap) l) : n = l.length ∧ n ≤ cap ∧ cap ≤ maxLen ∧ (A = none → cap = 0) ∧ Holds w w.heap.size A n (fun i => l.getD i 0) := by
  obtain ⟨A', cap', e, h1, h2, h3, h4⟩ := h
  cases e
  refine ⟨rfl, h1, h2, h3, fun h0 => ?_⟩
  obtain ⟨ad, e1, _, hl, hcs⟩ := h4 h0
  exact ⟨ad, e1, hl, hcs⟩
/-- The slice's first m bytes. -/
theorem BAt.cut {w : World} {Q : Nat → Prop} {A : Option Addr} {n cap : Nat} {l : List Nat} (h : BAt w Q (.slice A n cap) l) (m : Nat) (hm : m ≤ l.length) : BAt w Q (.slice A m cap) (l.take m) := by
  obtain ⟨A', cap', e, h1, h2, h3, h4⟩ := h
  cases e
  have hl : (l.take m).length = m := by rw [List.length_take]; omega
  refine ⟨A, cap, by rw [hl], by omega, h2, h3, fun h0 => ?_⟩
  rw [hl] at h0
  obtain ⟨ad, e1, hq, hb, hcs⟩ := h4 (by omega)
  refine ⟨ad, e1, hq, hb, fun j hj => ?_⟩
  rw [hl] at hj
  rw [hcs j (by omega)]
  simp [List.getD, List.getElem?_take, hj]
/-- A row of one's own. -/
theorem BAt.own {w : World} {base n : Nat} {v : Value} {l : List Nat} (h : w.ownsRow base 5 1 v n (bvs l)) (hn : l.length = n) (Q : Nat → Prop) (hq : ∀ b, v.ownBlock = some b → Q b) : BAt w Q v l := by
  subst hn
  rcases h.2 with ⟨e1, e2⟩ | ⟨g, cap, cur, e1, hg, hgg, h1, h2, h3, h4⟩
  · have : l = [] := List.eq_nil_of_length_eq_zero e2
    subst this; subst e1
    exact BAt.nil w Q
  · subst e1
    refine ⟨_, cap, rfl, h1, h2, (fun h => by cases h), fun h0 => ⟨_, rfl, hq g rfl, block_lt hgg, fun j hj => ?_⟩⟩
    have e : (⟨g, 0, none⟩ : Addr).add j = ⟨g, j, none⟩ := by unfold Addr.add; by_cases h0 : j = 0 <;> simp [h0]
    have hx : (bvs l)[j]? = some (.int .u8 ((l.getD j 0 : Nat) : Int)) := by simp [bvs, List.getD, hj]
    rw [← h4, List.getElem?_take, if_pos (by omega)] at hx
    rw [e, cell_of_row _ _ _ _ _ _ hgg]
    simpa using hx
/-- The reference's disk. -/
structure RefIn (w : World) (base : Nat) (P : Nat → Prop) (rb : Nat) (fv : Value) (iv : Int) (es : List En) (S : St) : Prop where
  low : base ≤ rb
  blk : w.heap[rb]? = some (.cells #[fv, .int .i64 S.quota, .int .i64 (S.steps : Int), .bool S.armed.isSome, .int .i64 iv, .bool S.off] 61 (0, 0))
  own : w.ownsRow base 66 4 fv es.length (enCells es)
  ownp : ∀ g, fv.ownBlock = some g → P g ∧ g ≠ rb
  rows : ∀ e ∈ es, BAt w (fun b => P b ∧ b ≠ rb) e.v e.f.b
  fs : fsOf es = S.fs
  arm : ∀ k, S.armed = some k → iv = (k : Int)
def RefAt (w : World) (base : Nat) (P : Nat → Prop) (rb : Nat) (S : St) : Prop := ∃ fv iv es, RefIn w base P rb fv iv es S
theorem RefIn.lt {w : World} {base rb : Nat} {P : Nat → Prop} {fv : Value} {iv : Int} {es : List En} {S : St} (h : RefIn w base P rb fv iv es S) : rb < w.heap.size := block_lt h.blk
theorem RefIn.ch {w w' : World} {base rb : Nat} {P M : Nat → Prop} {fv : Value} {iv : Int} {es : List En} {S : St} (h : RefIn w base P rb fv iv es S) (hc : Ch w w' M) (hr : ¬ M rb) (hm : ∀ b, b < w.heap.size → P b → b ≠ rb → ¬ M b) : RefIn w' base P rb fv iv es S :=
  ⟨h.low, hc.heap h.blk hr, hc.own h.own fun b hb => hm b (h.own.lt b hb).2 (h.ownp b hb).1 (h.ownp b hb).2, h.ownp, fun e he => (h.rows e he).ch hc fun b hb hq => hm b hb hq.1 hq.2, h.fs, h.arm⟩
theorem RefAt.ch {w w' : World} {base rb : Nat} {P M : Nat → Prop} {S : St} (h : RefAt w base P rb S) (hc : Ch w w' M) (hr : ¬ M rb) (hm : ∀ b, b < w.heap.size → P b → b ≠ rb → ¬ M b) : RefAt w' base P rb S := by
  obtain ⟨fv, iv, es, h⟩ := h
  exact ⟨fv, iv, es, h.ch hc hr hm⟩
theorem RefIn.below {w w' : World} {base rb : Nat} {P : Nat → Prop} {fv : Value} {iv : Int} {es : List En} {S : St} (h : RefIn w base P rb fv iv es S) (hb : Below w.heap.size w w') : RefIn w' base P rb fv iv es S :=
  h.ch (Ch.of_below hb (fun b => w.heap.size ≤ b) fun _ _ hk => hk) (by have := h.lt; omega) fun b hl _ _ hM => by omega
theorem RefAt.below {w w' : World} {base rb : Nat} {P : Nat → Prop} {S : St} (h : RefAt w base P rb S) (hb : Below w.heap.size w w') : RefAt w' base P rb S := by
  obtain ⟨fv, iv, es, h⟩ := h
  exact ⟨fv, iv, es, h.below hb⟩
theorem RefAt.mono {w : World} {base rb : Nat} {P P' : Nat → Prop} {S : St} (h : RefAt w base P rb S) (hp : ∀ b, b < w.heap.size → P b → b ≠ rb → P' b) : RefAt w base P' rb S := by
  obtain ⟨fv, iv, es, h⟩ := h
  exact ⟨fv, iv, es, h.low, h.blk, h.own, fun g hg => ⟨hp g (h.own.lt g hg).2 (h.ownp g hg).1 (h.ownp g hg).2, (h.ownp g hg).2⟩, fun e he => (h.rows e he).mono fun b hb hq => ⟨hp b hb hq.1 hq.2, hq.2⟩, h.fs, h.arm⟩
/-- Its files, by their places. -/
def EnRow (w : World) (fv : Value) (es : List En) : Prop :=
  ∃ A cap, fv = .slice A es.length cap ∧ es.length ≤ cap ∧ cap ≤ maxLen ∧ (0 < es.length → ∃ ad, A = some ad ∧ ∀ i (hi : i < es.length), ∀ j u, es[i].cells[j]? = some u → w.cell? ((ad.add (i * 4)).add j) = some u)
theorem add_at (g a b : Nat) : ((⟨g, 0, none⟩ : Addr).add a).add b = ⟨g, a + b, none⟩ := by
  unfold Addr.add
  by_cases h0 : a = 0 <;> by_cases h1 : b = 0 <;> simp [h0, h1]
theorem EnRow.own {w : World} {base : Nat} {fv : Value} {es : List En} (h : w.ownsRow base 66 4 fv es.length (enCells es)) : EnRow w fv es := by
  rcases h.2 with ⟨e1, e2⟩ | ⟨g, cap, cur, e1, hg, hgg, h1, h2, h3, h4⟩
  · subst e1
    exact ⟨none, 0, by rw [e2], by omega, by decide, fun h => absurd h (by omega)⟩
  · subst e1
    refine ⟨_, cap, rfl, h1, h2, fun h0 => ⟨_, rfl, fun i hi j u hu => ?_⟩⟩
    have hj : j < 4 := (List.getElem?_eq_some_iff.1 hu).1
    rw [add_at, cell_of_row _ _ _ _ _ _ hgg]
    have hx := enCells_get es i hi j u hu
    rw [← h4, List.getElem?_take, if_pos (by omega)] at hx
    simpa using hx
theorem EnRow.cells {w : World} {A : Option Addr} {n cap : Nat} {es : List En} (h : EnRow w (.slice A n cap) es) {i : Nat} (hi : i < es.length) :
    ∃ ad, A = some ad ∧ w.cell? (ad.add (i * 4)) = some (.string es[i].s) ∧ w.cell? ⟨(ad.add (i * 4)).block, (ad.add (i * 4)).off + 1, none⟩ = some es[i].v ∧ w.cell? ⟨(ad.add (i * 4)).block, (ad.add (i * 4)).off + 2, none⟩ = some (.int .i64 (es[i].f.sure : Int)) ∧ w.cell? ⟨(ad.add (i * 4)).block, (ad.add (i * 4)).off + 3, none⟩ = some (.bool es[i].f.ever) := by
  obtain ⟨A', cap', e, _, _, h4⟩ := h
  cases e
  obtain ⟨ad, e1, hc⟩ := h4 (by omega)
  exact ⟨ad, e1, hc i hi 0 _ rfl, hc i hi 1 _ rfl, hc i hi 2 _ rfl, hc i hi 3 _ rfl⟩
theorem EnRow.below {w w' : World} {fv : Value} {es : List En} (h : EnRow w fv es) (hb : Below w.heap.size w w') : EnRow w' fv es := by
  obtain ⟨A, cap, e, h1, h2, h4⟩ := h
  refine ⟨A, cap, e, h1, h2, fun h0 => ?_⟩
  obtain ⟨ad, e1, hc⟩ := h4 h0
  exact ⟨ad, e1, fun i hi j u hu => (hb.cell (World.block_lt_of_cell? w _ (hc i hi j u hu))).trans (hc i hi j u hu)⟩
theorem EnRow.slice {w : World} {fv : Value} {es : List En} (h : EnRow w fv es) : ∃ A cap, fv = .slice A es.length cap ∧ es.length ≤ cap ∧ cap ≤ maxLen := by
  obtain ⟨A, cap, e, h1, h2, _⟩ := h
  exact ⟨A, cap, e, h1, h2⟩
/-- Where a name stands. -/
def findI (es : List En) (s : ByteArray) : Option Nat := es.findIdx? fun e => decide (e.s = s)
def findV (es : List En) (s : ByteArray) : Int := match findI es s with | some i => (i : Int) | none => -1
theorem findV_none {es : List En} {s : ByteArray} (h : ∀ e ∈ es, e.s ≠ s) : findV es s = -1 := by
  unfold findV findI
  rw [List.findIdx?_eq_none_iff.2 (fun e he => by simpa using h e he)]
theorem findV_at {es : List En} {s : ByteArray} (i : Nat) (h : i < es.length) (hs : es[i].s = s) (hn : ∀ j (hj : j < i), (es[j]'(by omega)).s ≠ s) : findV es s = (i : Int) := by
  unfold findV findI
  rw [List.findIdx?_eq_some_iff_getElem.2 ⟨h, by simpa using hs, fun j hj => by simpa using hn j hj⟩]
theorem findI_get {es : List En} {s : ByteArray} : (findV es s = -1 ∧ get (fsOf es) s = none) ∨ ∃ i, ∃ h : i < es.length, findV es s = (i : Int) ∧ es[i].s = s ∧ get (fsOf es) s = some es[i].f := by
  induction es with
  | nil => exact .inl ⟨rfl, rfl⟩
  | cons e es ih =>
    by_cases he : e.s = s
    · exact .inr ⟨0, by simp, findV_at 0 (by simp) he (fun j hj => by omega), he, by show (if e.s = s then some e.f else _) = _; rw [if_pos he]; rfl⟩
    · have hg : get (fsOf (e :: es)) s = get (fsOf es) s := by show (if e.s = s then some e.f else get (fsOf es) s) = _; rw [if_neg he]
      have hi : findI (e :: es) s = (findI es s).map (· + 1) := by unfold findI; rw [List.findIdx?_cons]; simp [he]
      rcases ih with ⟨h1, h2⟩ | ⟨i, h, h1, h2, h3⟩
      · left
        refine ⟨?_, hg.trans h2⟩
        unfold findV at h1 ⊢
        rw [hi]
        cases hf : findI es s with
        | none => rfl
        | some i => rw [hf] at h1; simp at h1
      · right
        refine ⟨i + 1, by simpa using h, ?_, by simpa using h2, by rw [hg, h3]; simp⟩
        unfold findV at h1 ⊢
        rw [hi]
        cases hf : findI es s with
        | none => rw [hf] at h1; simp at h1
        | some k =>
          rw [hf] at h1
          have h1 : (k : Int) = (i : Int) := h1
          show ((k + 1 : Nat) : Int) = _
          omega
end Go.Proofs.Ytfgbaigpmhnoaaa

/- disk: the reference's find, name, asked, fails, Used, get. -/
namespace Go.Proofs.Ytfgbaigpmhnoaaa
open Go.RowKit Go.BigFrame Go.Maps
open Dsk (Fl St Ok get put drop used)

theorem RefIn.cells {w : World} {base rb : Nat} {P : Nat → Prop} {fv : Value} {iv : Int} {es : List En} {S : St} (h : RefIn w base P rb fv iv es S) :
    w.cell? ⟨rb, 0, none⟩ = some fv ∧ w.cell? ⟨rb, 1, none⟩ = some (.int .i64 S.quota) ∧ w.cell? ⟨rb, 2, none⟩ = some (.int .i64 (S.steps : Int)) ∧ w.cell? ⟨rb, 3, none⟩ = some (.bool S.armed.isSome) ∧ w.cell? ⟨rb, 4, none⟩ = some (.int .i64 iv) ∧ w.cell? ⟨rb, 5, none⟩ = some (.bool S.off) := by
  refine ⟨?_, ?_, ?_, ?_, ?_, ?_⟩ <;> · rw [blk_cell h.blk]; rfl
theorem RefIn.free {w : World} {base rb : Nat} {P : Nat → Prop} {fv : Value} {iv : Int} {es : List En} {S : St} (h : RefIn w base P rb fv iv es S) (i : Nat) : w.frozen? ⟨rb, i, none⟩ = false := blk_free h.blk i
theorem RefIn.row {w : World} {base rb : Nat} {P : Nat → Prop} {fv : Value} {iv : Int} {es : List En} {S : St} (h : RefIn w base P rb fv iv es S) : EnRow w fv es := EnRow.own h.own
/-- A call that only tells. -/
def SameR (w : World) (v : Value) (e : Ending) (w' : World) : Prop := e = .returned v ∧ w = w'
set_option maxRecDepth 100000 in
set_option maxHeartbeats 800000 in
theorem rfind_any {w : World} {base rb : Nat} {P : Nat → Prop} {fv : Value} {iv : Int} {es : List En} {S : St} (h : RefIn w base P rb fv iv es S) (s : ByteArray) :
    Calls Try.prog 59 #[.pointer (some ⟨rb, 0, none⟩), .string s] w (SameR w (.int .i64 (findV es s))) := by
  obtain ⟨A, cap, hfv, hlc, hcm⟩ := h.row.slice
  subst hfv
  have HE := Lib.hid h.row
  obtain ⟨c0, _⟩ := h.cells
  have HV := Lib.hid (fun (v : Int) (hv : v = findV es s) => show SameR w (.int .i64 (findV es s)) (.returned (.int .i64 v)) w from ⟨by rw [hv], rfl⟩)
  generalize SameR w (.int .i64 (findV es s)) = post at *
  unfold maxLen at hcm
  clear h
  go_enter Try.func59, Try.ntmps59
  go_wp2
  go_loop [5] (fun iv => ∃ i : Nat, iv = .int .i64 (i : Int) ∧ i ≤ es.length ∧ Hid (∀ j (h : j < es.length), j < i → es[j].s ≠ s)) (fun iv => es.length - (intOf iv).toNat)
  case atStart => exact ⟨0, rfl, by omega, Lib.hid (fun j h hj => by omega)⟩
  case round =>
    obtain ⟨i, rfl, hi, HN⟩ := hrel
    by_cases hlt : i < es.length
    · obtain ⟨ad, rfl, h0, _⟩ := HE.out.cells hlt
      by_cases hs : es[i].s = s
      · have heq : (es[i].s.toList == s.toList) = true := by rw [str_ne_iff]; simp [hs]
        have HQ := Lib.hid (HV.out (i : Int) (findV_at i hlt hs fun j hj => HN.out j (by omega) hj).symm)
        clear hs HN
        generalize es[i].s = nm at *
        go_wp2
        exact HQ.out
      · have heq : (es[i].s.toList == s.toList) = false := by rw [str_ne_iff]; simp [hs]
        have HN1 : Hid (∀ j (h : j < es.length), j < i + 1 → es[j].s ≠ s) := Lib.hid (fun j h hj => by
          by_cases e : j = i
          · subst e; exact hs
          · exact HN.out j h (by omega))
        clear hs HN
        generalize es[i].s = nm at *
        go_wp2
        go_round
        case rel => exact ⟨i + 1, by go_num, by omega, HN1⟩
        case measure => simp [intOf]; omega
    · obtain rfl : i = es.length := by omega
      have HQ := Lib.hid (HV.out (-1) (findV_none fun e he => by
        obtain ⟨j, hj, rfl⟩ := List.mem_iff_getElem.1 he
        exact HN.out j hj hj).symm)
      clear HN
      go_wp2
      exact HQ.out
theorem rname_any (s : ByteArray) (w : World) (hs : s.size ≤ maxLen) : Calls Try.prog 54 #[.string s] w fun e w' => e = .returned (.bool (nameOk s)) ∧ w = w' := by
  unfold maxLen at hs
  by_cases h1 : 0 < s.size
  · have d1 : decide ((1 : Int) ≤ (s.size : Int)) = true := decide_eq_true (by omega)
    by_cases h2 : s.size ≤ 128
    · have hn : nameOk s = true := by unfold nameOk; simp [h1, h2]
      have d2 : decide ((s.size : Int) ≤ 128) = true := decide_eq_true (by omega)
      rw [hn]
      clear hn
      go_enter Try.func54, Try.ntmps54
      go_wp2
      go_ret
      exact ⟨rfl, rfl⟩
    · have hn : nameOk s = false := by unfold nameOk; simp [h1, h2]
      have d2 : decide ((s.size : Int) ≤ 128) = false := decide_eq_false (by omega)
      rw [hn]
      clear hn
      go_enter Try.func54, Try.ntmps54
      go_wp2
      go_ret
      exact ⟨rfl, rfl⟩
  · have d1 : decide ((1 : Int) ≤ (s.size : Int)) = false := decide_eq_false (by omega)
    have hn : nameOk s = false := by unfold nameOk; simp [h1]
    rw [hn]
    clear hn
    go_enter Try.func54, Try.ntmps54
    go_wp2
    go_ret
    exact ⟨rfl, rfl⟩
/-- What is asked ahead of a call. -/
def askC (S : St) (s : ByteArray) (there : Bool) : Int := if refC S [s] ≠ 0 then refC S [s] else if there = true ∧ get S.fs s = none then 5 else 0
set_option maxRecDepth 100000 in
set_option maxHeartbeats 800000 in
theorem asked_any {w : World} {base rb : Nat} {P : Nat → Prop} {S : St} (h : RefAt w base P rb S) (s : ByteArray) (there : Bool) (hs : s.size ≤ maxLen) :
    Calls Try.prog 50 #[.pointer (some ⟨rb, 0, none⟩), .string s, .bool there] w (SameR w (.int .i64 (askC S s there))) := by
  obtain ⟨fv, iv, es, h⟩ := h
  obtain ⟨_, _, _, _, _, c5⟩ := h.cells
  have HV := Lib.hid (fun (v : Int) (hv : v = askC S s there) => show SameR w (.int .i64 (askC S s there)) (.returned (.int .i64 v)) w from ⟨by rw [hv], rfl⟩)
  generalize SameR w (.int .i64 (askC S s there)) = post at *
  have HF := Lib.hid (rfind_any h s)
  have HN := Lib.hid (rname_any s w hs)
  have hg := findI_get (es := es) (s := s)
  rw [h.fs] at hg
  have HG := Lib.hid hg
  clear h hg
  cases hoff : S.off with
  | true =>
    rw [hoff] at c5
    have HQ := Lib.hid (HV.out 40 (by unfold askC refC; simp [hoff]))
    go_enter Try.func50, Try.ntmps50
    go_wp2
    exact HQ.out
  | false =>
    rw [hoff] at c5
    cases hn : nameOk s with
    | false =>
      rw [hn] at HN
      have HQ := Lib.hid (HV.out 2 (by unfold askC refC; simp [hoff, hn]))
      clear hn hoff
      go_enter Try.func50, Try.ntmps50
      go_wp2_with fail
      refine HN.out.mono ?_
      rintro e w' ⟨rfl, rfl⟩
      go_wp2
      exact HQ.out
    | true =>
      rw [hn] at HN
      cases there with
      | false =>
        have HQ := Lib.hid (HV.out 0 (by unfold askC refC; simp [hoff, hn]))
        clear hn hoff
        go_enter Try.func50, Try.ntmps50
        go_wp2_with fail
        refine HN.out.mono ?_
        rintro e w' ⟨rfl, rfl⟩
        go_wp2
        exact HQ.out
      | true =>
        rcases HG.out with ⟨h1, h2⟩ | ⟨i, _, h1, _, h2⟩
        · rw [h1] at HF
          have HQ := Lib.hid (HV.out 5 (by unfold askC refC; simp [hoff, hn, h2]))
          clear hn hoff HG h1 h2
          go_enter Try.func50, Try.ntmps50
          go_wp2_with fail
          refine HN.out.mono ?_
          rintro e w' ⟨rfl, rfl⟩
          go_wp2_with fail
          refine HF.out.mono ?_
          rintro e w' ⟨rfl, rfl⟩
          go_wp2
          exact HQ.out
        · rw [h1] at HF
          have HQ := Lib.hid (HV.out 0 (by unfold askC refC; simp [hoff, hn, h2]))
          clear hn hoff HG h1 h2
          go_enter Try.func50, Try.ntmps50
          go_wp2_with fail
          refine HN.out.mono ?_
          rintro e w' ⟨rfl, rfl⟩
          go_wp2_with fail
          refine HF.out.mono ?_
          rintro e w' ⟨rfl, rfl⟩
          go_wp2
          exact HQ.out
end Go.Proofs.Ytfgbaigpmhnoaaa

/- disk: the reference's Used, fails, get; Fail, Crash, New. -/
namespace Go.Proofs.Ytfgbaigpmhnoaaa
open Go.RowKit Go.BigFrame Go.Maps
open Dsk (Fl St Ok get put drop used)

theorem used_take (fs : Dsk.FS) : ∀ (i : Nat) (h : i < fs.length), used (fs.take (i + 1)) = used (fs.take i) + fs[i].2.b.length := by
  induction fs with
  | nil => intro i h; simp at h
  | cons p fs ih =>
    intro i h
    cases i with
    | zero => simp [Dsk.used]
    | succ i =>
      have := ih i (by simpa using h)
      simp only [List.take_succ_cons, Dsk.used, List.getElem_cons_succ, this]
      omega
theorem used_take_le (fs : Dsk.FS) (i : Nat) : used (fs.take i) ≤ used fs := by
  induction fs generalizing i with
  | nil => simp [Dsk.used]
  | cons p fs ih =>
    cases i with
    | zero => simp [Dsk.used]
    | succ i => have := ih i; simp only [List.take_succ_cons, Dsk.used]; omega
theorem BAt.slice {w : World} {Q : Nat → Prop} {v : Value} {l : List Nat} (h : BAt w Q v l) : ∃ A cap, v = .slice A l.length cap ∧ l.length ≤ cap ∧ cap ≤ maxLen := by
  obtain ⟨A, cap, e, h1, h2, _⟩ := h
  exact ⟨A, cap, e, h1, h2⟩
set_option maxRecDepth 100000 in
set_option maxHeartbeats 800000 in
theorem rused_any {w : World} {base rb : Nat} {P : Nat → Prop} {S : St} (h : RefAt w base P rb S) (hu : used S.fs ≤ 1000000000000) :
    Calls Try.prog 37 #[.pointer (some ⟨rb, 0, none⟩)] w (SameR w (.int .i64 (used S.fs : Int))) := by
  obtain ⟨fv, iv, es, h⟩ := h
  obtain ⟨A, cap, hfv, hlc, hcm⟩ := h.row.slice
  subst hfv
  have HE := Lib.hid h.row
  have HR := Lib.hid h.rows
  obtain ⟨c0, _⟩ := h.cells
  rw [← h.fs] at hu ⊢
  have HU := Lib.hid (used_take_le (fsOf es))
  have HT := Lib.hid (used_take (fsOf es))
  have HV := Lib.hid (fun (v : Nat) (hv : v = used (fsOf es)) => show SameR w (.int .i64 (used (fsOf es) : Int)) (.returned (.int .i64 (v : Int))) w from ⟨by rw [hv], rfl⟩)
  generalize SameR w (.int .i64 (used (fsOf es) : Int)) = post at *
  generalize hup : used (fsOf es) = up at *
  unfold maxLen at hcm
  clear h
  go_enter Try.func37, Try.ntmps37
  go_wp2
  go_loop [3, 4] (fun nv iv => ∃ i n : Nat, iv = .int .i64 (i : Int) ∧ nv = .int .i64 (n : Int) ∧ i ≤ es.length ∧ n ≤ 1000000000000 ∧ Hid (n = used ((fsOf es).take i))) (fun _ iv => es.length - (intOf iv).toNat)
  case atStart => exact ⟨0, 0, rfl, rfl, by omega, by omega, Lib.hid (by simp [Dsk.used])⟩
  case round =>
    obtain ⟨i, n, rfl, rfl, hi, hn, HN⟩ := hrel
    by_cases hlt : i < es.length
    · obtain ⟨ad, rfl, _, h1, _⟩ := HE.out.cells hlt
      obtain ⟨Ab, cb, hvb, _, hcb⟩ := (HR.out es[i] (List.getElem_mem _)).slice
      rw [hvb] at h1
      have hst := HT.out i (by rw [fsOf_len]; exact hlt)
      rw [fsOf_get es i hlt, ← HN.out] at hst
      dsimp only at hst
      have hle := HU.out (i + 1)
      rw [hst] at hle
      have hlb : es[i].f.b.length ≤ 1000000000000 := by omega
      have hnb : n + es[i].f.b.length ≤ 1000000000000 := by omega
      have HN1 := Lib.hid hst.symm
      clear hst hle hvb HN
      generalize es[i].f.b.length = m at *
      go_wp2
      go_round
      case rel => exact ⟨i + 1, n + m, by go_num, by go_num, by omega, by omega, HN1⟩
      case measure => simp [intOf]; omega
    · obtain rfl : i = es.length := by omega
      have HQ := Lib.hid (HV.out n (by rw [HN.out, List.take_of_length_le (by rw [fsOf_len]; omega), hup]))
      clear HN
      go_wp2
      exact HQ.out
/-- What a call on the reference's disk leaves. -/
structure RefLeft (w w' : World) (base : Nat) (P : Nat → Prop) (rb : Nat) (S' : St) : Prop where
  ref : RefAt w' base P rb S'
  ch : Ch w w' (fun b => b = rb)
theorem RefIn.flip {w w' : World} {base rb : Nat} {P : Nat → Prop} {fv : Value} {iv iv' : Int} {es : List En} {S S' : St} (h : RefIn w base P rb fv iv es S) (hc : Ch w w' (fun b => b = rb))
    (hb : w'.heap[rb]? = some (.cells #[fv, .int .i64 S'.quota, .int .i64 (S'.steps : Int), .bool S'.armed.isSome, .int .i64 iv', .bool S'.off] 61 (0, 0))) (hfs : S'.fs = S.fs) (ha : ∀ k, S'.armed = some k → iv' = (k : Int)) : RefLeft w w' base P rb S' :=
  ⟨⟨fv, iv', es, h.low, hb, hc.own h.own fun b hb => (h.ownp b hb).2, h.ownp, fun e he => (h.rows e he).ch hc fun b _ hq => hq.2, by rw [hfs]; exact h.fs, ha⟩, hc⟩
theorem RefIn.set {w : World} {base rb : Nat} {P : Nat → Prop} {fv : Value} {iv : Int} {es : List En} {S : St} (h : RefIn w base P rb fv iv es S) (i : Nat) (v : Value) : (w.setCell ⟨rb, i, none⟩ v).heap[rb]? = some (.cells ((#[fv, .int .i64 S.quota, .int .i64 (S.steps : Int), .bool S.armed.isSome, .int .i64 iv, .bool S.off] : Array Value).setIfInBounds i v) 61 (0, 0)) := blk_set h.blk i v
def RDone (w : World) (base : Nat) (P : Nat → Prop) (rb : Nat) (S' : St) (r : Value) (e : Ending) (w' : World) : Prop := e = .returned r ∧ RefLeft w w' base P rb S'
theorem rcrash_any {w : World} {base rb : Nat} {P : Nat → Prop} {S : St} (h : RefAt w base P rb S) :
    Calls Try.prog 35 #[.pointer (some ⟨rb, 0, none⟩)] w (RDone w base P rb { S with off := true, armed := none } (.tuple #[])) := by
  obtain ⟨fv, iv, es, h⟩ := h
  have HQ := Lib.hid (show RDone w base P rb { S with off := true, armed := none } (.tuple #[]) (.returned (.tuple #[])) ((w.setCell ⟨rb, 5, none⟩ (.bool true)).setCell ⟨rb, 3, none⟩ (.bool false)) from
    ⟨rfl, h.flip (((Ch.refl w (fun b => b = rb)).setCell (p := ⟨rb, 5, none⟩) rfl _).setCell (p := ⟨rb, 3, none⟩) rfl _) (iv' := iv) (by rw [blk_set (h.set 5 (.bool true)) 3 (.bool false)]; rfl) rfl (fun k e => by cases e)⟩)
  generalize RDone w base P rb { S with off := true, armed := none } (.tuple #[]) = post at *
  have f5 := h.free 5
  have f3 := h.free 3
  obtain ⟨_, _, _, c3, _, c5⟩ := h.cells
  clear h
  go_enter Try.func35, Try.ntmps35
  go_wp2
  go_end0
  exact HQ.out
theorem rfail_any {w : World} {base rb : Nat} {P : Nat → Prop} {S : St} (h : RefAt w base P rb S) (n : Int) :
    Calls Try.prog 34 #[.pointer (some ⟨rb, 0, none⟩), .int .i64 n] w (RDone w base P rb { S with armed := armOf n } (.tuple #[])) := by
  obtain ⟨fv, iv, es, h⟩ := h
  obtain ⟨q, hq⟩ : ∃ q, q = decide (0 ≤ n) := ⟨_, rfl⟩
  have HQ := Lib.hid (show RDone w base P rb { S with armed := armOf n } (.tuple #[]) (.returned (.tuple #[])) ((w.setCell ⟨rb, 3, none⟩ (.bool q)).setCell ⟨rb, 4, none⟩ (.int .i64 n)) from
    ⟨rfl, h.flip (((Ch.refl w (fun b => b = rb)).setCell (p := ⟨rb, 3, none⟩) rfl _).setCell (p := ⟨rb, 4, none⟩) rfl _) (iv' := n) (by
      rw [blk_set (h.set 3 (.bool q)) 4 (.int .i64 n)]
      have : (armOf n).isSome = q := by rw [hq]; unfold armOf; split <;> simp <;> omega
      show _ = some (Obj.cells #[fv, .int .i64 S.quota, .int .i64 (S.steps : Int), .bool (armOf n).isSome, .int .i64 n, .bool S.off] _ _)
      rw [this]
      rfl) rfl (fun k e => by have e : armOf n = some k := e; unfold armOf at e; split at e <;> cases e; omega)⟩)
  generalize RDone w base P rb { S with armed := armOf n } (.tuple #[]) = post at *
  have f4 := h.free 4
  have f3 := h.free 3
  obtain ⟨_, _, _, c3, c4, _⟩ := h.cells
  clear h
  cases q with
  | true =>
    have hq' : decide (0 ≤ n) = true := hq.symm
    clear hq
    go_enter Try.func34, Try.ntmps34
    go_wp2
    go_end0
    exact HQ.out
  | false =>
    have hq' : decide (0 ≤ n) = false := hq.symm
    clear hq
    go_enter Try.func34, Try.ntmps34
    go_wp2
    go_end0
    exact HQ.out
set_option maxRecDepth 100000 in
set_option maxHeartbeats 800000 in
theorem rfails_any {w : World} {base rb : Nat} {P : Nat → Prop} {S : St} (h : RefAt w base P rb S) (hst : S.steps < 1000000000) (harm : ∀ k, S.armed = some k → k < 9223372036854775808) :
    Calls Try.prog 53 #[.pointer (some ⟨rb, 0, none⟩)] w (RDone w base P rb (stepS (plus1 S)) (.bool (decide (S.armed = some 0)))) := by
  obtain ⟨fv, iv, es, h⟩ := h
  have f2 := h.free 2
  have f3 := h.free 3
  have f4 := h.free 4
  have f5 := h.free 5
  obtain ⟨_, _, c2, c3, c4, c5⟩ := h.cells
  have hc2 : Ch w (w.setCell ⟨rb, 2, none⟩ (.int .i64 ((S.steps : Int) + 1))) (fun b => b = rb) := (Ch.refl w (fun b => b = rb)).setCell (p := ⟨rb, 2, none⟩) rfl _
  have hb2 := h.set 2 (.int .i64 ((S.steps : Int) + 1))
  cases ha : S.armed with
  | none =>
    rw [ha] at c3
    have HQ := Lib.hid (show RDone w base P rb (stepS (plus1 S)) (.bool (decide ((none : Option Nat) = some 0))) (.returned (.bool false)) (w.setCell ⟨rb, 2, none⟩ (.int .i64 ((S.steps : Int) + 1))) from
      ⟨rfl, by rw [stepS_none (S := plus1 S) ha]; exact h.flip hc2 (iv' := iv) (by rw [hb2]; unfold plus1; simp) rfl h.arm⟩)
    generalize RDone w base P rb (stepS (plus1 S)) (.bool (decide ((none : Option Nat) = some 0))) = post at *
    clear h ha hc2 hb2
    simp only [Option.isSome_none] at c3
    go_enter Try.func53, Try.ntmps53
    go_wp2
    exact HQ.out
  | some k =>
    rw [ha] at c3
    simp only [Option.isSome_some] at c3
    have hiv := h.arm k ha
    have hk := harm k ha
    subst hiv
    cases k with
    | zero =>
      have HQ := Lib.hid (show RDone w base P rb (stepS (plus1 S)) (.bool (decide ((some 0 : Option Nat) = some 0))) (.returned (.bool true)) (((w.setCell ⟨rb, 2, none⟩ (.int .i64 ((S.steps : Int) + 1))).setCell ⟨rb, 3, none⟩ (.bool false)).setCell ⟨rb, 5, none⟩ (.bool true)) from
        ⟨rfl, by rw [stepS_zero (S := plus1 S) ha]; exact h.flip ((hc2.setCell (p := ⟨rb, 3, none⟩) rfl _).setCell (p := ⟨rb, 5, none⟩) rfl _) (iv' := ((0 : Nat) : Int)) (by rw [blk_set (blk_set hb2 3 (.bool false)) 5 (.bool true)]; unfold plus1; simp) rfl (fun k e => by cases e)⟩)
      generalize RDone w base P rb (stepS (plus1 S)) (.bool (decide ((some 0 : Option Nat) = some 0))) = post at *
      clear h ha hc2 hb2
      go_enter Try.func53, Try.ntmps53
      go_wp2
      exact HQ.out
    | succ k =>
      have HQ := Lib.hid (show RDone w base P rb (stepS (plus1 S)) (.bool (decide ((some (k + 1) : Option Nat) = some 0))) (.returned (.bool false)) ((w.setCell ⟨rb, 2, none⟩ (.int .i64 ((S.steps : Int) + 1))).setCell ⟨rb, 4, none⟩ (.int .i64 (k : Int))) from
        ⟨by simp, by rw [stepS_succ (S := plus1 S) ha]; exact h.flip (hc2.setCell (p := ⟨rb, 4, none⟩) rfl _) (iv' := (k : Int)) (by rw [blk_set hb2 4 (.int .i64 (k : Int))]; unfold plus1; simp [ha]) rfl (fun j e => by cases e; rfl)⟩)
      generalize RDone w base P rb (stepS (plus1 S)) (.bool (decide ((some (k + 1) : Option Nat) = some 0))) = post at *
      have hk1 : (((k + 1 : Nat) : Int)) - 1 = (k : Int) := by omega
      have hgt : decide ((0 : Int) < ((k + 1 : Nat) : Int)) = true := decide_eq_true (by omega)
      have hlo : (0 : Int) ≤ ((k + 1 : Nat) : Int) := by omega
      have hhi : ((k + 1 : Nat) : Int) ≤ 9223372036854775807 := by omega
      clear h ha hc2 hb2 hk
      go_enter Try.func53, Try.ntmps53
      go_wp2
      exact HQ.out
def RGet (w : World) (Q : Nat → Prop) (S : St) (s : ByteArray) (e : Ending) (w' : World) : Prop :=
  ∃ v, e = .returned (.agg #[.string s, v, .int .i64 ((getF S.fs s).sure : Int), .bool (getF S.fs s).ever]) ∧ BAt w Q v (getF S.fs s).b ∧ ∃ vs T, w' = w.alloc (.cells vs T)
set_option maxRecDepth 100000 in
set_option maxHeartbeats 800000 in
theorem rget_any {w : World} {base rb : Nat} {P : Nat → Prop} {S : St} (h : RefAt w base P rb S) (s : ByteArray) :
    Calls Try.prog 51 #[.pointer (some ⟨rb, 0, none⟩), .string s] w (RGet w (fun b => P b ∧ b ≠ rb) S s) := by
  obtain ⟨fv, iv, es, h⟩ := h
  have hal := (Below.refl w.heap.size w).alloc (Nat.le_refl _) (.cells #[.string ⟨#[]⟩, .slice none 0 0, .int .i64 0, .bool false] 66 (0, 0))
  have h1 := h.below hal
  have HF := Lib.hid (rfind_any h1 s)
  rcases findI_get (es := es) (s := s) with ⟨e1, e2⟩ | ⟨i, hi, e1, e2, e3⟩
  · rw [e1] at HF
    rw [h.fs] at e2
    have HQ := Lib.hid (fun (w' : World) (vs : Array Value) (T : TypeId) (hw : w' = w.alloc (.cells vs T)) => show RGet w (fun b => P b ∧ b ≠ rb) S s (.returned (.agg #[.string s, .slice none 0 0, .int .i64 0, .bool false])) w' from
      ⟨.slice none 0 0, by unfold getF; rw [e2]; rfl, by unfold getF; rw [e2]; exact BAt.nil _ _, vs, T, hw⟩)
    generalize RGet w (fun b => P b ∧ b ≠ rb) S s = post at *
    clear h h1 hal e1 e2
    go_enter Try.func51, Try.ntmps51
    go_wp2_with fail
    refine HF.out.mono ?_
    rintro e w' ⟨rfl, rfl⟩
    go_wp2
    exact bodyPost_ret (v := .agg #[.string s, .slice none 0 0, .int .i64 0, .bool false]) (by simp [results, Try.results51, go_sem]) rfl (HQ.out _ _ _ rfl)
  · rw [e1] at HF
    rw [h.fs] at e3
    have HQ := Lib.hid (fun (w' : World) (vs : Array Value) (T : TypeId) (hw : w' = w.alloc (.cells vs T)) => show RGet w (fun b => P b ∧ b ≠ rb) S s (.returned (.agg #[.string s, es[i].v, .int .i64 (es[i].f.sure : Int), .bool es[i].f.ever])) w' from
      ⟨es[i].v, by unfold getF; rw [e3]; rfl, by unfold getF; rw [e3]; exact h.rows _ (List.getElem_mem _), vs, T, hw⟩)
    generalize RGet w (fun b => P b ∧ b ≠ rb) S s = post at *
    obtain ⟨A, cap, hfv, hlc, hcm⟩ := h1.row.slice
    subst hfv
    obtain ⟨ad, rfl, g0, g1, g2, g3⟩ := h1.row.cells hi
    obtain ⟨c0, _⟩ := h1.cells
    rw [e2] at g0
    unfold maxLen at hcm
    obtain ⟨Av, cv, hvv, _, _⟩ := (h.rows _ (List.getElem_mem hi)).slice
    rw [hvv] at g1 HQ
    clear h h1 hal e1 e2 e3 hvv
    generalize es[i].f.b.length = nb at *
    generalize es[i].f.ever = ev at *
    generalize (es[i].f.sure : Int) = su at *
    go_enter Try.func51, Try.ntmps51
    go_wp2_with fail
    refine HF.out.mono ?_
    rintro e w' ⟨rfl, rfl⟩
    go_wp2
    exact bodyPost_ret (v := .agg #[.string s, .slice Av nb cv, .int .i64 su, .bool ev]) (by simp [results, Try.results51, go_sem]) rfl (HQ.out _ _ _ rfl)
end Go.Proofs.Ytfgbaigpmhnoaaa
