/- disk: the reference's put and drop (maths; where a new row of files lies). -/
import Derived.Test.YtfgbaigpmhnoaaaDmSa
import Derived.BigQuiet
import Derived.Sort.Walk0
set_option linter.unusedVariables false
set_option linter.unusedSimpArgs false
namespace Go.Proofs.Ytfgbaigpmhnoaaa
open Go.RowKit Go.BigFrame Go.Maps
open Dsk (Fl St Ok get put drop used)

theorem put_app_low : ∀ (A B : Dsk.FS) (s : ByteArray) (f : Fl), (∀ p ∈ A, Dsk.ltB p.1 s = true) → put (A ++ B) s f = A ++ put B s f
  | [], B, s, f, _ => rfl
  | (t, g) :: A, B, s, f, h => by
    have h1 := h (t, g) (by simp)
    show (if t = s then _ else if Dsk.ltB s t then _ else (t, g) :: put (A ++ B) s f) = _
    rw [if_neg (Dsk.ltB_ne h1), if_neg (by rw [Dsk.ltB_asymm h1]; simp), put_app_low A B s f fun p hp => h p (by simp [hp])]
    rfl
theorem put_app_ge : ∀ (A B : Dsk.FS) (s : ByteArray) (f : Fl), (∃ q ∈ A, Dsk.ltB q.1 s = false) → put (A ++ B) s f = put A s f ++ B
  | [], B, s, f, h => by obtain ⟨q, hq, _⟩ := h; simp at hq
  | (t, g) :: A, B, s, f, h => by
    show (if t = s then _ else if Dsk.ltB s t then _ else (t, g) :: put (A ++ B) s f) = (if t = s then _ else if Dsk.ltB s t then _ else (t, g) :: put A s f) ++ B
    by_cases h1 : t = s
    · rw [if_pos h1, if_pos h1]; rfl
    · rw [if_neg h1, if_neg h1]
      by_cases h2 : Dsk.ltB s t = true
      · rw [if_pos h2, if_pos h2]; rfl
      · rw [if_neg h2, if_neg h2, put_app_ge A B s f]
        · rfl
        · obtain ⟨q, hq, hl⟩ := h
          rcases List.mem_cons.1 hq with rfl | hq
          · rcases Dsk.ltB_total h1 with h3 | h3
            · rw [h3] at hl; cases hl
            · exact absurd h3 h2
          · exact ⟨q, hq, hl⟩
theorem take_snoc {α : Type} (l : List α) (i : Nat) (h : i < l.length) : l.take (i + 1) = l.take i ++ [l[i]] := by
  rw [List.take_succ_eq_append_getElem h]
/-- Where the loop of put is. -/
def PutTo (fs : Dsk.FS) (s : ByteArray) (f : Fl) (i : Nat) (dn : Bool) (L : Dsk.FS) : Prop := match dn with
  | false => (∀ p ∈ fs.take i, Dsk.ltB p.1 s = true) ∧ L = fs.take i
  | true => (∃ q ∈ fs.take i, Dsk.ltB q.1 s = false) ∧ L = put (fs.take i) s f
theorem PutTo.start (fs : Dsk.FS) (s : ByteArray) (f : Fl) : PutTo fs s f 0 false [] := ⟨fun p hp => by simp at hp, by simp⟩
theorem PutTo.low {fs : Dsk.FS} {s : ByteArray} {f : Fl} {i : Nat} {L : Dsk.FS} (h : PutTo fs s f i false L) (hi : i < fs.length) (hl : Dsk.ltB fs[i].1 s = true) : PutTo fs s f (i + 1) false (L ++ [fs[i]]) := by
  refine ⟨fun p hp => ?_, by rw [take_snoc _ _ hi, h.2]⟩
  rw [take_snoc _ _ hi, List.mem_append] at hp
  rcases hp with hp | hp
  · exact h.1 p hp
  · simp at hp; subst hp; exact hl
theorem PutTo.same {fs : Dsk.FS} {s : ByteArray} {f : Fl} {i : Nat} {L : Dsk.FS} (h : PutTo fs s f i false L) (hi : i < fs.length) (hl : fs[i].1 = s) : PutTo fs s f (i + 1) true (L ++ [(s, f)]) := by
  refine ⟨⟨fs[i], by rw [take_snoc _ _ hi]; exact List.mem_append_right _ (List.mem_singleton.2 rfl), by rw [hl]; exact Dsk.ltB_irrefl s⟩, ?_⟩
  rw [take_snoc _ _ hi, put_app_low _ _ _ _ h.1, h.2]
  congr 1
  show _ = (if fs[i].1 = s then _ else _)
  rw [if_pos hl]
theorem PutTo.over {fs : Dsk.FS} {s : ByteArray} {f : Fl} {i : Nat} {L : Dsk.FS} (h : PutTo fs s f i false L) (hi : i < fs.length) (hl : Dsk.ltB fs[i].1 s = false) (hne : fs[i].1 ≠ s) : PutTo fs s f (i + 1) true (L ++ [(s, f)] ++ [fs[i]]) := by
  refine ⟨⟨fs[i], by rw [take_snoc _ _ hi]; exact List.mem_append_right _ (List.mem_singleton.2 rfl), hl⟩, ?_⟩
  rw [take_snoc _ _ hi, put_app_low _ _ _ _ h.1, h.2, List.append_assoc]
  congr 1
  show _ = (if fs[i].1 = s then _ else if Dsk.ltB s fs[i].1 then _ else _)
  rw [if_neg hne, if_pos]
  · rfl
  · rcases Dsk.ltB_total hne with h3 | h3
    · rw [h3] at hl; cases hl
    · exact h3
theorem PutTo.ne {fs : Dsk.FS} {s : ByteArray} {f : Fl} {i : Nat} {L : Dsk.FS} (h : PutTo fs s f i true L) (hs : Dsk.Sorted fs) (hi : i < fs.length) : fs[i].1 ≠ s := by
  obtain ⟨⟨q, hq, hl⟩, _⟩ := h
  obtain ⟨j, hj, rfl⟩ := List.mem_iff_getElem.1 hq
  rw [List.length_take] at hj
  rw [List.getElem_take] at hl
  have := List.pairwise_iff_getElem.1 hs j i (by omega) hi (by omega)
  intro e
  rw [e, hl] at this
  cases this
theorem PutTo.past {fs : Dsk.FS} {s : ByteArray} {f : Fl} {i : Nat} {L : Dsk.FS} (h : PutTo fs s f i true L) (hi : i < fs.length) : PutTo fs s f (i + 1) true (L ++ [fs[i]]) := by
  obtain ⟨⟨q, hq, hl⟩, h2⟩ := h
  refine ⟨⟨q, by rw [take_snoc _ _ hi]; exact List.mem_append_left _ hq, hl⟩, ?_⟩
  rw [take_snoc _ _ hi, put_app_ge _ _ _ _ ⟨q, hq, hl⟩, h2]
theorem PutTo.endT {fs : Dsk.FS} {s : ByteArray} {f : Fl} {L : Dsk.FS} (h : PutTo fs s f fs.length true L) : L = put fs s f := by
  have := h.2
  rwa [List.take_of_length_le (Nat.le_refl _)] at this
theorem PutTo.endF {fs : Dsk.FS} {s : ByteArray} {f : Fl} {L : Dsk.FS} (h : PutTo fs s f fs.length false L) : L ++ [(s, f)] = put fs s f := by
  obtain ⟨h1, h2⟩ := h
  rw [List.take_of_length_le (Nat.le_refl _)] at h1 h2
  have := put_app_low fs [] s f h1
  rw [List.append_nil] at this
  rw [this, h2]
  rfl
/-- Where the loop of drop is. -/
def dropTo (fs : Dsk.FS) (s : ByteArray) (i : Nat) : Dsk.FS := (fs.take i).filter fun p => decide (p.1 ≠ s)
theorem dropTo_ne {fs : Dsk.FS} {s : ByteArray} {i : Nat} (hi : i < fs.length) (hne : fs[i].1 ≠ s) : dropTo fs s (i + 1) = dropTo fs s i ++ [fs[i]] := by
  unfold dropTo
  rw [take_snoc _ _ hi, List.filter_append]
  simp [hne]
theorem dropTo_eq {fs : Dsk.FS} {s : ByteArray} {i : Nat} (hi : i < fs.length) (he : fs[i].1 = s) : dropTo fs s (i + 1) = dropTo fs s i := by
  unfold dropTo
  rw [take_snoc _ _ hi, List.filter_append]
  simp [he]
theorem dropTo_end : ∀ {fs : Dsk.FS} {s : ByteArray}, Dsk.Sorted fs → dropTo fs s fs.length = drop fs s := by
  intro fs s h
  unfold dropTo
  rw [List.take_of_length_le (Nat.le_refl _)]
  induction fs with
  | nil => rfl
  | cons p fs ih =>
    obtain ⟨h1, h2⟩ := List.pairwise_cons.1 h
    obtain ⟨t, g⟩ := p
    show _ = (if t = s then fs else (t, g) :: drop fs s)
    by_cases e : t = s
    · rw [if_pos e]
      subst e
      rw [List.filter_cons, if_neg (by simp)]
      exact List.filter_eq_self.2 fun q hq => by have := Dsk.ltB_ne (h1 q hq); simp; exact fun e => this e.symm
    · rw [if_neg e, List.filter_cons, if_pos (by simp [e]), ih h2]
/-- A new row of files takes the old one's place. -/
theorem RefIn.files {w wr : World} {base rb : Nat} {P : Nat → Prop} {fv lv : Value} {iv : Int} {es es' : List En} {S S' : St} (h : RefIn w base P rb fv iv es S) (hb : Below w.heap.size w wr) (ho : wr.ownsRow w.heap.size 66 4 lv es'.length (enCells es'))
    (hr : ∀ e ∈ es', BAt w (fun b => P b ∧ b ≠ rb) e.v e.f.b) (hP : ∀ b, w.heap.size ≤ b → P b) (hS : S' = { S with fs := fsOf es' }) : RefLeft w (wr.setCell ⟨rb, 0, none⟩ lv) base P rb S' := by
  subst hS
  have hc : Ch w (wr.setCell ⟨rb, 0, none⟩ lv) (fun b => b = rb) := (Ch.of_below hb (fun b => b = rb) (fun k hk hge => by omega)).setCell (p := ⟨rb, 0, none⟩) rfl _
  have hlt := h.lt
  have hcl := Ch.of_below hb (fun _ => False) (fun k hk hge => by omega)
  have hown : (wr.setCell ⟨rb, 0, none⟩ lv).ownsRow w.heap.size 66 4 lv es'.length (enCells es') := ownsRow_setCell_other ho (a := ⟨rb, 0, none⟩) (fun e => by have := (ho.lt rb e).1; omega) _
  refine ⟨⟨lv, iv, es', h.low, ?_, own_down hown (by have := h.low; omega), fun g hg => ⟨hP g (ho.lt g hg).1, fun e => by have := (ho.lt g hg).1; omega⟩, fun e he => ?_, rfl, h.arm⟩, hc⟩
  · rw [blk_set (hcl.heap h.blk (fun h => h)) 0 lv]
    rfl
  · exact (hr e he).ch hc fun b _ hq => hq.2
theorem infoFile : (Try.prog.info? 66).map (fun i => (i.zero, i.size, i.bytes)) = some (some (.agg #[.string ⟨#[]⟩, .slice none 0 0, .int .i64 0, .bool false]), 4, 56) := by kernel_rfl
theorem cells_new (w : World) (cs : Array Value) (T : TypeId) (xs : List Value) (h : cs.toList = xs) : ∀ j u, xs[j]? = some u → (w.alloc (.cells cs T)).cell? ((⟨w.heap.size, 0, none⟩ : Addr).add j) = some u := by
  intro j u hu
  subst h
  have hh : (w.alloc (.cells cs T (0, 0))).heap[w.heap.size]? = some (.cells cs T (0, 0)) := heap_alloc_new w _
  have e : (⟨w.heap.size, 0, none⟩ : Addr).add j = ⟨w.heap.size, j, none⟩ := by unfold Addr.add; by_cases h0 : j = 0 <;> simp [h0]
  rw [e, blk_cell hh]
  simpa using hu
theorem one_file (s : ByteArray) (A : Option Addr) (n c : Nat) (su : Int) (ev : Bool) : ∀ u ∈ ([.string s, .slice A n c, .int .i64 su, .bool ev] : List Value), u.oneCell' = true := by
  intro u hu
  simp at hu
  rcases hu with rfl | rfl | rfl | rfl <;> rfl
end Go.Proofs.Ytfgbaigpmhnoaaa

/- disk: the reference's put, walked. -/
namespace Go.Proofs.Ytfgbaigpmhnoaaa
open Go.RowKit Go.BigFrame Go.Maps
open Dsk (Fl St Ok get put drop used)

theorem own_sl4 {w : World} {base n : Nat} {e : TypeId} {v : Value} {xs : List Value} (h : w.ownsRow base e 4 v n xs) : ∃ A cap, v = .slice A n cap := by
  rcases h.2 with ⟨e1, e2⟩ | ⟨g, cap, cur, e1, _⟩
  · exact ⟨none, 0, by rw [e1, e2]⟩
  · exact ⟨_, cap, e1⟩
theorem less_ltB (s t : ByteArray) : Op.bytesLess s.toList t.toList = Dsk.ltB s t := by
  rw [Lib.toList_data, Lib.toList_data]
  unfold Dsk.ltB
  exact bytesLess_eq _ _
/-- One file more in a row of one's own. -/
structure MoreE (W0 w2 : World) (Q : Nat → Prop) (w : World) (v' : Value) (es' : List En) : Prop where
  own : w2.ownsRow W0.heap.size 66 4 v' es'.length (enCells es')
  below : Below W0.heap.size W0 w2
  rows : ∀ e ∈ es', BAt w Q e.v e.f.b
theorem MoreE.add {W0 wr w1 w2 w : World} {Q : Nat → Prop} {lv v' : Value} {es' : List En} (h : MoreE W0 wr Q w lv es') (e : En) (he : BAt w Q e.v e.f.b) (hb : Below W0.heap.size W0 w1) (ho : w2.ownsRow W0.heap.size 66 4 v' (es'.length + 1) (enCells es' ++ e.cells)) (hg : w1.grownBy w2 lv.ownBlock) : MoreE W0 w2 Q w v' (es' ++ [e]) := by
  refine ⟨by rw [List.length_append, enCells_snoc]; exact ho, hb.grown hg hb.size (fun g e => (h.own.lt g e).1), fun x hx => ?_⟩
  rcases List.mem_append.1 hx with hx | hx
  · exact h.rows x hx
  · simp at hx; subst hx; exact he
set_option maxRecDepth 100000 in
set_option maxHeartbeats 8000000 in
theorem rput_any {w : World} {base rb : Nat} {P : Nat → Prop} {S : St} (h : RefAt w base P rb S) (s : ByteArray) (v : Value) (f : Fl) (hv : BAt w (fun b => P b ∧ b ≠ rb) v f.b) (hs : Dsk.Sorted S.fs) (hlen : S.fs.length ≤ 1000000000) (hP : ∀ b, w.heap.size ≤ b → P b) :
    Calls Try.prog 52 #[.pointer (some ⟨rb, 0, none⟩), .agg #[.string s, v, .int .i64 (f.sure : Int), .bool f.ever]] w (RDone w base P rb { S with fs := put S.fs s f } (.tuple #[])) := by
  obtain ⟨i0, hi, hz0, hz1, hz2⟩ := info_parts infoFile
  have HI := Lib.hid (And.intro hi (And.intro hz0 (And.intro hz1 hz2)))
  clear hi hz0 hz1 hz2
  obtain ⟨fv, iv, es, h⟩ := h
  obtain ⟨W0, hW0⟩ : ∃ W0, W0 = w.alloc (.cells #[.string s, v, .int .i64 (f.sure : Int), .bool f.ever] 66) := ⟨_, rfl⟩
  have hz0 : W0.heap.size = w.heap.size + 1 := by rw [hW0]; simp
  have hb0 : Below w.heap.size w W0 := by rw [hW0]; exact (Below.refl _ _).alloc (Nat.le_refl _) _
  have hfs := h.fs
  obtain ⟨fs, hfsn⟩ : ∃ fs, fs = S.fs := ⟨_, rfl⟩
  rw [← hfsn] at hs hlen hfs
  have hesl : es.length ≤ 1000000000 := by rw [← hfs, fsOf_len] at hlen; exact hlen
  have HFS := Lib.hid hfs
  have HSO := Lib.hid hs
  have HFIN := Lib.hid (fun (wr : World) (lv : Value) (es' : List En) (hm : MoreE W0 wr (fun b => P b ∧ b ≠ rb) w lv es') (he : fsOf es' = put fs s f) => show RDone w base P rb { S with fs := put S.fs s f } (.tuple #[]) (.returned (.tuple #[])) (wr.setCell ⟨rb, 0, none⟩ lv) from
    ⟨rfl, h.files (hb0.trans (hm.below.mono (by omega))) (own_down hm.own (by omega)) hm.rows hP (by rw [he, hfsn])⟩)
  generalize RDone w base P rb { S with fs := put S.fs s f } (.tuple #[]) = post at *
  have h1 := h.below hb0
  obtain ⟨A, cap, hfv, hlc, hcm⟩ := h1.row.slice
  subst hfv
  obtain ⟨Av, cv, hvv, _, _⟩ := hv.slice
  subst hvv
  have HV := Lib.hid hv
  have HROW := Lib.hid h1.row
  have HRB := Lib.hid (And.intro h1.lt (And.intro h1.cells.1 (h1.free 0)))
  have HRS := Lib.hid h.rows
  have hxb : W0.heap[w.heap.size]? = some (.cells #[.string s, .slice Av f.b.length cv, .int .i64 (f.sure : Int), .bool f.ever] 66 (0, 0)) := by rw [hW0]; exact heap_alloc_new w _
  have HX := Lib.hid (show w.heap.size < W0.heap.size ∧ W0.cell? ⟨w.heap.size, 0, none⟩ = some (.string s) ∧ W0.cell? ⟨w.heap.size, 1, none⟩ = some (.slice Av f.b.length cv) ∧ W0.cell? ⟨w.heap.size, 2, none⟩ = some (.int .i64 (f.sure : Int)) ∧ W0.cell? ⟨w.heap.size, 3, none⟩ = some (.bool f.ever) from ⟨by omega, by rw [blk_cell hxb]; rfl, by rw [blk_cell hxb]; rfl, by rw [blk_cell hxb]; rfl, by rw [blk_cell hxb]; rfl⟩)
  have HZ := Lib.hid hz0
  unfold maxLen at hcm
  have hcs : es.length ≤ cap := hlc
  clear h h1 hv hs hb0 hxb hfs hlen hz0 hfsn hP
  go_enter Try.func52, Try.ntmps52
  go_upto_region 1 with (fail)
  rw [← hW0]
  clear hW0
  go_wp2
  go_loopw [4, 5, 6] (fun lv dv iv wr => ∃ (i : Nat) (dn : Bool) (es' : List En), iv = .int .i64 (i : Int) ∧ dv = .bool dn ∧ i ≤ es.length ∧ es'.length ≤ 2 * i + 1 ∧ Hid (PutTo fs s f i dn (fsOf es')) ∧ Hid (MoreE W0 wr (fun b => P b ∧ b ≠ rb) w lv es')) (fun _ _ iv _ => es.length - (intOf iv).toNat)
  case atStart => exact ⟨0, false, [], rfl, rfl, by omega, by simp, Lib.hid (PutTo.start _ _ _), Lib.hid ⟨World.ownsRow_nil _ _ _ _, Below.refl _ _, fun e he => by simp at he⟩⟩
  case round =>
    obtain ⟨i, dn, es', rfl, rfl, hi, hel, HP, HM⟩ := hrel
    obtain ⟨A', cap', rfl⟩ := own_sl4 HM.out.own
    have hwz := HM.out.below.size
    have c0 : wr.cell? ⟨rb, 0, none⟩ = some (.slice A es.length cap) := (HM.out.below.cell (p := ⟨rb, 0, none⟩) HRB.out.1).trans HRB.out.2.1
    have ff : wr.frozen? ⟨rb, 0, none⟩ = false := (HM.out.below.frozen (p := ⟨rb, 0, none⟩) HRB.out.1).trans HRB.out.2.2
    by_cases hlt : i < es.length
    · obtain ⟨ad, rfl, g0, g1, g2, g3⟩ := HROW.out.cells hlt
      clear c0 ff
      have hpi : i < fs.length := by rw [← HFS.out, fsOf_len]; exact hlt
      have hfi : fs[i] = (es[i].s, es[i].f) := by simp only [← HFS.out]; exact fsOf_get es i hlt
      obtain ⟨Ae, ce, hve, _, _⟩ := (HRS.out es[i] (List.getElem_mem _)).slice
      rw [hve] at g1
      have HCE := Lib.hid (show es[i].cells = [.string es[i].s, .slice Ae es[i].f.b.length ce, .int .i64 (es[i].f.sure : Int), .bool es[i].f.ever] from by unfold En.cells; rw [hve])
      have HBE := Lib.hid (HRS.out es[i] (List.getElem_mem _))
      obtain ⟨nm, hnm⟩ : ∃ nm, nm = es[i].s := ⟨_, rfl⟩
      obtain ⟨ne, hne⟩ : ∃ ne, ne = es[i].f.b.length := ⟨_, rfl⟩
      obtain ⟨su, hsu⟩ : ∃ su : Int, su = (es[i].f.sure : Int) := ⟨_, rfl⟩
      obtain ⟨ev, hev⟩ : ∃ ev, ev = es[i].f.ever := ⟨_, rfl⟩
      rw [← hnm, ← hne, ← hsu, ← hev] at HCE
      rw [← hnm] at g0 hfi
      rw [← hne] at g1
      rw [← hsu] at g2
      rw [← hev] at g3
      have HFI := Lib.hid hfi
      have HFI2 := Lib.hid (show fs[i] = (es[i].s, es[i].f) from by simp only [← HFS.out]; exact fsOf_get es i hlt)
      have HG := Lib.hid (And.intro g0 (And.intro g1 (And.intro g2 g3)))
      clear hve hnm hne hsu hev hfi g0 g1 g2 g3
      have c0 : wr.cell? ⟨rb, 0, none⟩ = some (.slice (some ad) es.length cap) := (HM.out.below.cell (p := ⟨rb, 0, none⟩) HRB.out.1).trans HRB.out.2.1
      have x0 : wr.cell? ⟨w.heap.size, 0, none⟩ = some (.string s) := (HM.out.below.cell (p := ⟨w.heap.size, 0, none⟩) HX.out.1).trans HX.out.2.1
      have x1 : wr.cell? ⟨w.heap.size, 1, none⟩ = some (.slice Av f.b.length cv) := (HM.out.below.cell (p := ⟨w.heap.size, 1, none⟩) HX.out.1).trans HX.out.2.2.1
      have x2 : wr.cell? ⟨w.heap.size, 2, none⟩ = some (.int .i64 (f.sure : Int)) := (HM.out.below.cell (p := ⟨w.heap.size, 2, none⟩) HX.out.1).trans HX.out.2.2.2.1
      have x3 : wr.cell? ⟨w.heap.size, 3, none⟩ = some (.bool f.ever) := (HM.out.below.cell (p := ⟨w.heap.size, 3, none⟩) HX.out.1).trans HX.out.2.2.2.2
      have g0 : wr.cell? (ad.add (i * 4)) = some (.string nm) := (HM.out.below.cell (World.block_lt_of_cell? W0 _ HG.out.1)).trans HG.out.1
      have g1 : wr.cell? ⟨(ad.add (i * 4)).block, (ad.add (i * 4)).off + 1, none⟩ = some (.slice Ae ne ce) := (HM.out.below.cell (World.block_lt_of_cell? W0 _ HG.out.2.1)).trans HG.out.2.1
      have g2 : wr.cell? ⟨(ad.add (i * 4)).block, (ad.add (i * 4)).off + 2, none⟩ = some (.int .i64 su) := (HM.out.below.cell (World.block_lt_of_cell? W0 _ HG.out.2.2.1)).trans HG.out.2.2.1
      have g3 : wr.cell? ⟨(ad.add (i * 4)).block, (ad.add (i * 4)).off + 3, none⟩ = some (.bool ev) := (HM.out.below.cell (World.block_lt_of_cell? W0 _ HG.out.2.2.2)).trans HG.out.2.2.2
      cases dn with
      | true =>
        have hneS : nm ≠ s := by have := HP.out.ne HSO.out hpi; rwa [HFI.out] at this
        have heq : (nm.toList == s.toList) = false := by rw [str_ne_iff]; simp [hneS]
        have HP1 := Lib.hid (HP.out.past hpi)
        clear hneS HP
        go_wp2_with fail
        go_quiet (fail)
        generalize hqwq : wr.drewN nq = wq
        have hcwq : Ch wr wq (fun _ => False) := hqwq ▸ (Ch.refl wr _).drewN nq
        replace c0 := hcwq.cell c0 (fun h => h)
        replace g0 := hcwq.cell g0 (fun h => h)
        replace g1 := hcwq.cell g1 (fun h => h)
        replace g2 := hcwq.cell g2 (fun h => h)
        replace g3 := hcwq.cell g3 (fun h => h)
        replace x0 := hcwq.cell x0 (fun h => h)
        replace x1 := hcwq.cell x1 (fun h => h)
        replace x2 := hcwq.cell x2 (fun h => h)
        replace x3 := hcwq.cell x3 (fun h => h)
        have HCwq := Lib.hid hcwq
        clear hqwq hcwq
        go_wp2_with fail
        go_quiet (fail)
        generalize hqwp : wq.drewN nq = wp
        have hcwp : Ch wq wp (fun _ => False) := hqwp ▸ (Ch.refl wq _).drewN nq
        replace c0 := hcwp.cell c0 (fun h => h)
        replace g0 := hcwp.cell g0 (fun h => h)
        replace g1 := hcwp.cell g1 (fun h => h)
        replace g2 := hcwp.cell g2 (fun h => h)
        replace g3 := hcwp.cell g3 (fun h => h)
        replace x0 := hcwp.cell x0 (fun h => h)
        replace x1 := hcwp.cell x1 (fun h => h)
        replace x2 := hcwp.cell x2 (fun h => h)
        replace x3 := hcwp.cell x3 (fun h => h)
        have HCwp := Lib.hid hcwp
        clear hqwp hcwp
        have HOq := Lib.hid (HCwp.out.own (HCwq.out.own HM.out.own (fun _ _ h => h)) (fun _ _ h => h))
        have HBq := Lib.hid (show Below W0.heap.size W0 wp from HM.out.below.trans ((HCwq.out.trans HCwp.out (fun _ _ h => h)).below hwz (fun _ h => h.elim)))
        go_wp2_with (at_builtin; go_loud (refine wpList_append_own _ rfl _ _ 59 rfl W0.heap.size 66 i0 (.agg #[.string ⟨#[]⟩, .slice none 0 0, .int .i64 0, .bool false]) 4 56 Try.underlying59 HI.out.1 HI.out.2.1 HI.out.2.2.1 HI.out.2.2.2 rfl (by decide) (.slice A' es'.length cap') es'.length (enCells es') rfl (HOq.out.alloc _) ⟨wp.heap.size, 0, none⟩ 1 1 [.string nm, .slice Ae ne ce, .int .i64 su, .bool ev] rfl rfl (cells_new _ _ _ _ rfl) (one_file _ _ _ _ _ _) ?h63PAST ?hbyPAST ?hbaPAST ?_))
        case h63PAST => unfold maxLen; omega
        case hbyPAST => omega
        case hbaPAST => have := HBq.out.size; simp; omega
        intro v2 w2 ho2 hg2 _
        have HM2 := Lib.hid (HM.out.add es[i] HBE.out (HBq.out.alloc HBq.out.size _) (by rw [HCE.out]; exact ho2) hg2)
        have HP2 := Lib.hid (show PutTo fs s f (i + 1) true (fsOf (es' ++ [es[i]])) from by rw [fsOf_snoc, ← HFI2.out]; exact HP1.out)
        obtain ⟨A2, cap2, rfl⟩ := own_sl4 ho2
        clear ho2 hg2 HOq HBq HP1
        go_wp2
        go_roundw
        case rel => exact ⟨i + 1, true, es' ++ [es[i]], by go_num, rfl, by omega, by rw [List.length_append]; simp; omega, HP2, HM2⟩
        case measure => simp [intOf]; omega
      | false =>
        cases hlow : Dsk.ltB nm s with
        | true =>
          have hless : Op.bytesLess nm.toList s.toList = true := by rw [less_ltB]; exact hlow
          have heq : (nm.toList == s.toList) = false := by rw [str_ne_iff]; simp [Dsk.ltB_ne hlow]
          have HP1 := Lib.hid (HP.out.low hpi (by rw [HFI.out]; exact hlow))
          clear hlow HP
          go_wp2_with fail
          go_quiet (fail)
          generalize hqwq : wr.drewN nq = wq
          have hcwq : Ch wr wq (fun _ => False) := hqwq ▸ (Ch.refl wr _).drewN nq
          replace c0 := hcwq.cell c0 (fun h => h)
          replace g0 := hcwq.cell g0 (fun h => h)
          replace g1 := hcwq.cell g1 (fun h => h)
          replace g2 := hcwq.cell g2 (fun h => h)
          replace g3 := hcwq.cell g3 (fun h => h)
          replace x0 := hcwq.cell x0 (fun h => h)
          replace x1 := hcwq.cell x1 (fun h => h)
          replace x2 := hcwq.cell x2 (fun h => h)
          replace x3 := hcwq.cell x3 (fun h => h)
          have HCwq := Lib.hid hcwq
          clear hqwq hcwq
          go_wp2_with fail
          go_quiet (fail)
          generalize hqwp : wq.drewN nq = wp
          have hcwp : Ch wq wp (fun _ => False) := hqwp ▸ (Ch.refl wq _).drewN nq
          replace c0 := hcwp.cell c0 (fun h => h)
          replace g0 := hcwp.cell g0 (fun h => h)
          replace g1 := hcwp.cell g1 (fun h => h)
          replace g2 := hcwp.cell g2 (fun h => h)
          replace g3 := hcwp.cell g3 (fun h => h)
          replace x0 := hcwp.cell x0 (fun h => h)
          replace x1 := hcwp.cell x1 (fun h => h)
          replace x2 := hcwp.cell x2 (fun h => h)
          replace x3 := hcwp.cell x3 (fun h => h)
          have HCwp := Lib.hid hcwp
          clear hqwp hcwp
          have HOq := Lib.hid (HCwp.out.own (HCwq.out.own HM.out.own (fun _ _ h => h)) (fun _ _ h => h))
          have HBq := Lib.hid (show Below W0.heap.size W0 wp from HM.out.below.trans ((HCwq.out.trans HCwp.out (fun _ _ h => h)).below hwz (fun _ h => h.elim)))
          go_wp2_with (at_builtin; go_loud (refine wpList_append_own _ rfl _ _ 59 rfl W0.heap.size 66 i0 (.agg #[.string ⟨#[]⟩, .slice none 0 0, .int .i64 0, .bool false]) 4 56 Try.underlying59 HI.out.1 HI.out.2.1 HI.out.2.2.1 HI.out.2.2.2 rfl (by decide) (.slice A' es'.length cap') es'.length (enCells es') rfl (HOq.out.alloc _) ⟨wp.heap.size, 0, none⟩ 1 1 [.string nm, .slice Ae ne ce, .int .i64 su, .bool ev] rfl rfl (cells_new _ _ _ _ rfl) (one_file _ _ _ _ _ _) ?h63LOW ?hbyLOW ?hbaLOW ?_))
          case h63LOW => unfold maxLen; omega
          case hbyLOW => omega
          case hbaLOW => have := HBq.out.size; simp; omega
          intro v2 w2 ho2 hg2 _
          have HM2 := Lib.hid (HM.out.add es[i] HBE.out (HBq.out.alloc HBq.out.size _) (by rw [HCE.out]; exact ho2) hg2)
          have HP2 := Lib.hid (show PutTo fs s f (i + 1) false (fsOf (es' ++ [es[i]])) from by rw [fsOf_snoc, ← HFI2.out]; exact HP1.out)
          obtain ⟨A2, cap2, rfl⟩ := own_sl4 ho2
          clear ho2 hg2 HOq HBq HP1
          go_wp2
          go_roundw
          case rel => exact ⟨i + 1, false, es' ++ [es[i]], by go_num, rfl, by omega, by rw [List.length_append]; simp; omega, HP2, HM2⟩
          case measure => simp [intOf]; omega
        | false =>
          have hless : Op.bytesLess nm.toList s.toList = false := by rw [less_ltB]; exact hlow
          by_cases hsame : nm = s
          · have heq : (nm.toList == s.toList) = true := by rw [str_ne_iff]; simp [hsame]
            have HP1 := Lib.hid (HP.out.same hpi (by rw [HFI.out]; exact hsame))
            clear hlow HP hsame
            go_wp2_with fail
            go_quiet (fail)
            generalize hqwq : wr.drewN nq = wq
            have hcwq : Ch wr wq (fun _ => False) := hqwq ▸ (Ch.refl wr _).drewN nq
            replace c0 := hcwq.cell c0 (fun h => h)
            replace g0 := hcwq.cell g0 (fun h => h)
            replace g1 := hcwq.cell g1 (fun h => h)
            replace g2 := hcwq.cell g2 (fun h => h)
            replace g3 := hcwq.cell g3 (fun h => h)
            replace x0 := hcwq.cell x0 (fun h => h)
            replace x1 := hcwq.cell x1 (fun h => h)
            replace x2 := hcwq.cell x2 (fun h => h)
            replace x3 := hcwq.cell x3 (fun h => h)
            have HCwq := Lib.hid hcwq
            clear hqwq hcwq
            have HOq := Lib.hid (HCwq.out.own HM.out.own (fun _ _ h => h))
            have HBq := Lib.hid (show Below W0.heap.size W0 wq from HM.out.below.trans (HCwq.out.below hwz (fun _ h => h.elim)))
            go_wp2_with (at_builtin; go_loud (refine wpList_append_own _ rfl _ _ 59 rfl W0.heap.size 66 i0 (.agg #[.string ⟨#[]⟩, .slice none 0 0, .int .i64 0, .bool false]) 4 56 Try.underlying59 HI.out.1 HI.out.2.1 HI.out.2.2.1 HI.out.2.2.2 rfl (by decide) (.slice A' es'.length cap') es'.length (enCells es') rfl (HOq.out.alloc _) ⟨wq.heap.size, 0, none⟩ 1 1 [.string s, .slice Av f.b.length cv, .int .i64 (f.sure : Int), .bool f.ever] rfl rfl (cells_new _ _ _ _ rfl) (one_file _ _ _ _ _ _) ?h63SAME ?hbySAME ?hbaSAME ?_))
            case h63SAME => unfold maxLen; omega
            case hbySAME => omega
            case hbaSAME => have := HBq.out.size; simp; omega
            intro v2 w2 ho2 hg2 _
            have HM2 := Lib.hid (HM.out.add (⟨s, f, .slice Av f.b.length cv⟩ : En) HV.out (HBq.out.alloc HBq.out.size _) ho2 hg2)
            obtain ⟨A2, cap2, rfl⟩ := own_sl4 ho2
            have hwz2 := HM2.out.below.size
            clear ho2 hg2 HOq HBq c0 x0 x1 x2 x3 g0 g1 g2 g3
            have c0 : w2.cell? ⟨rb, 0, none⟩ = some (.slice (some ad) es.length cap) := (HM2.out.below.cell (p := ⟨rb, 0, none⟩) HRB.out.1).trans HRB.out.2.1
            have x0 : w2.cell? ⟨w.heap.size, 0, none⟩ = some (.string s) := (HM2.out.below.cell (p := ⟨w.heap.size, 0, none⟩) HX.out.1).trans HX.out.2.1
            have x1 : w2.cell? ⟨w.heap.size, 1, none⟩ = some (.slice Av f.b.length cv) := (HM2.out.below.cell (p := ⟨w.heap.size, 1, none⟩) HX.out.1).trans HX.out.2.2.1
            have x2 : w2.cell? ⟨w.heap.size, 2, none⟩ = some (.int .i64 (f.sure : Int)) := (HM2.out.below.cell (p := ⟨w.heap.size, 2, none⟩) HX.out.1).trans HX.out.2.2.2.1
            have x3 : w2.cell? ⟨w.heap.size, 3, none⟩ = some (.bool f.ever) := (HM2.out.below.cell (p := ⟨w.heap.size, 3, none⟩) HX.out.1).trans HX.out.2.2.2.2
            have g0 : w2.cell? (ad.add (i * 4)) = some (.string nm) := (HM2.out.below.cell (World.block_lt_of_cell? W0 _ HG.out.1)).trans HG.out.1
            have g1 : w2.cell? ⟨(ad.add (i * 4)).block, (ad.add (i * 4)).off + 1, none⟩ = some (.slice Ae ne ce) := (HM2.out.below.cell (World.block_lt_of_cell? W0 _ HG.out.2.1)).trans HG.out.2.1
            have g2 : w2.cell? ⟨(ad.add (i * 4)).block, (ad.add (i * 4)).off + 2, none⟩ = some (.int .i64 su) := (HM2.out.below.cell (World.block_lt_of_cell? W0 _ HG.out.2.2.1)).trans HG.out.2.2.1
            have g3 : w2.cell? ⟨(ad.add (i * 4)).block, (ad.add (i * 4)).off + 3, none⟩ = some (.bool ev) := (HM2.out.below.cell (World.block_lt_of_cell? W0 _ HG.out.2.2.2)).trans HG.out.2.2.2
            go_wp2_with fail
            go_quiet (fail)
            generalize hq3 : w2.drewN nq = w3
            have hc3 : Ch w2 w3 (fun _ => False) := hq3 ▸ (Ch.refl w2 _).drewN nq
            have HM3 := Lib.hid (show MoreE W0 w3 (fun b => P b ∧ b ≠ rb) w (.slice A2 (es'.length + 1) cap2) (es' ++ [(⟨s, f, .slice Av f.b.length cv⟩ : En)]) from ⟨hc3.own HM2.out.own (fun _ _ h => h), HM2.out.below.trans (hc3.below hwz2 (fun _ h => h.elim)), HM2.out.rows⟩)
            have HP2 := Lib.hid (show PutTo fs s f (i + 1) true (fsOf (es' ++ [(⟨s, f, .slice Av f.b.length cv⟩ : En)])) from by rw [fsOf_snoc]; exact HP1.out)
            clear hq3 hc3 HP1 HM2
            go_wp2
            go_roundw
            case rel => exact ⟨i + 1, true, es' ++ [(⟨s, f, .slice Av f.b.length cv⟩ : En)], by go_num, rfl, by omega, by rw [List.length_append]; simp; omega, HP2, HM3⟩
            case measure => simp [intOf]; omega
          · have heq : (nm.toList == s.toList) = false := by rw [str_ne_iff]; simp [hsame]
            have HP1 := Lib.hid (HP.out.over hpi (by rw [HFI.out]; exact hlow) (by rw [HFI.out]; exact hsame))
            clear hlow HP hsame
            go_wp2_with fail
            go_quiet (fail)
            generalize hqwq : wr.drewN nq = wq
            have hcwq : Ch wr wq (fun _ => False) := hqwq ▸ (Ch.refl wr _).drewN nq
            replace c0 := hcwq.cell c0 (fun h => h)
            replace g0 := hcwq.cell g0 (fun h => h)
            replace g1 := hcwq.cell g1 (fun h => h)
            replace g2 := hcwq.cell g2 (fun h => h)
            replace g3 := hcwq.cell g3 (fun h => h)
            replace x0 := hcwq.cell x0 (fun h => h)
            replace x1 := hcwq.cell x1 (fun h => h)
            replace x2 := hcwq.cell x2 (fun h => h)
            replace x3 := hcwq.cell x3 (fun h => h)
            have HCwq := Lib.hid hcwq
            clear hqwq hcwq
            have HOq := Lib.hid (HCwq.out.own HM.out.own (fun _ _ h => h))
            have HBq := Lib.hid (show Below W0.heap.size W0 wq from HM.out.below.trans (HCwq.out.below hwz (fun _ h => h.elim)))
            go_wp2_with (at_builtin; go_loud (refine wpList_append_own _ rfl _ _ 59 rfl W0.heap.size 66 i0 (.agg #[.string ⟨#[]⟩, .slice none 0 0, .int .i64 0, .bool false]) 4 56 Try.underlying59 HI.out.1 HI.out.2.1 HI.out.2.2.1 HI.out.2.2.2 rfl (by decide) (.slice A' es'.length cap') es'.length (enCells es') rfl (HOq.out.alloc _) ⟨wq.heap.size, 0, none⟩ 1 1 [.string s, .slice Av f.b.length cv, .int .i64 (f.sure : Int), .bool f.ever] rfl rfl (cells_new _ _ _ _ rfl) (one_file _ _ _ _ _ _) ?h63OVA ?hbyOVA ?hbaOVA ?_))
            case h63OVA => unfold maxLen; omega
            case hbyOVA => omega
            case hbaOVA => have := HBq.out.size; simp; omega
            intro v2 w2 ho2 hg2 _
            have HM2 := Lib.hid (HM.out.add (⟨s, f, .slice Av f.b.length cv⟩ : En) HV.out (HBq.out.alloc HBq.out.size _) ho2 hg2)
            obtain ⟨A2, cap2, rfl⟩ := own_sl4 ho2
            have hwz2 := HM2.out.below.size
            clear ho2 hg2 HOq HBq c0 x0 x1 x2 x3 g0 g1 g2 g3
            have c0 : w2.cell? ⟨rb, 0, none⟩ = some (.slice (some ad) es.length cap) := (HM2.out.below.cell (p := ⟨rb, 0, none⟩) HRB.out.1).trans HRB.out.2.1
            have x0 : w2.cell? ⟨w.heap.size, 0, none⟩ = some (.string s) := (HM2.out.below.cell (p := ⟨w.heap.size, 0, none⟩) HX.out.1).trans HX.out.2.1
            have x1 : w2.cell? ⟨w.heap.size, 1, none⟩ = some (.slice Av f.b.length cv) := (HM2.out.below.cell (p := ⟨w.heap.size, 1, none⟩) HX.out.1).trans HX.out.2.2.1
            have x2 : w2.cell? ⟨w.heap.size, 2, none⟩ = some (.int .i64 (f.sure : Int)) := (HM2.out.below.cell (p := ⟨w.heap.size, 2, none⟩) HX.out.1).trans HX.out.2.2.2.1
            have x3 : w2.cell? ⟨w.heap.size, 3, none⟩ = some (.bool f.ever) := (HM2.out.below.cell (p := ⟨w.heap.size, 3, none⟩) HX.out.1).trans HX.out.2.2.2.2
            have g0 : w2.cell? (ad.add (i * 4)) = some (.string nm) := (HM2.out.below.cell (World.block_lt_of_cell? W0 _ HG.out.1)).trans HG.out.1
            have g1 : w2.cell? ⟨(ad.add (i * 4)).block, (ad.add (i * 4)).off + 1, none⟩ = some (.slice Ae ne ce) := (HM2.out.below.cell (World.block_lt_of_cell? W0 _ HG.out.2.1)).trans HG.out.2.1
            have g2 : w2.cell? ⟨(ad.add (i * 4)).block, (ad.add (i * 4)).off + 2, none⟩ = some (.int .i64 su) := (HM2.out.below.cell (World.block_lt_of_cell? W0 _ HG.out.2.2.1)).trans HG.out.2.2.1
            have g3 : w2.cell? ⟨(ad.add (i * 4)).block, (ad.add (i * 4)).off + 3, none⟩ = some (.bool ev) := (HM2.out.below.cell (World.block_lt_of_cell? W0 _ HG.out.2.2.2)).trans HG.out.2.2.2
            go_wp2_with fail
            go_quiet (fail)
            generalize hqwp : w2.drewN nq = wp
            have hcwp : Ch w2 wp (fun _ => False) := hqwp ▸ (Ch.refl w2 _).drewN nq
            replace c0 := hcwp.cell c0 (fun h => h)
            replace g0 := hcwp.cell g0 (fun h => h)
            replace g1 := hcwp.cell g1 (fun h => h)
            replace g2 := hcwp.cell g2 (fun h => h)
            replace g3 := hcwp.cell g3 (fun h => h)
            replace x0 := hcwp.cell x0 (fun h => h)
            replace x1 := hcwp.cell x1 (fun h => h)
            replace x2 := hcwp.cell x2 (fun h => h)
            replace x3 := hcwp.cell x3 (fun h => h)
            have HCwp := Lib.hid hcwp
            clear hqwp hcwp
            have HM3 := Lib.hid (show MoreE W0 wp (fun b => P b ∧ b ≠ rb) w (.slice A2 (es'.length + 1) cap2) (es' ++ [(⟨s, f, .slice Av f.b.length cv⟩ : En)]) from ⟨HCwp.out.own HM2.out.own (fun _ _ h => h), HM2.out.below.trans (HCwp.out.below hwz2 (fun _ h => h.elim)), HM2.out.rows⟩)
            have hlen2 : (es' ++ [(⟨s, f, .slice Av f.b.length cv⟩ : En)]).length = es'.length + 1 := by rw [List.length_append]; rfl
            have HES := Lib.hid (show fsOf (es' ++ [(⟨s, f, .slice Av f.b.length cv⟩ : En)]) = fsOf es' ++ [(s, f)] from fsOf_snoc _ _)
            rw [← hlen2] at HM3 ⊢
            have hel2 : (es' ++ [(⟨s, f, .slice Av f.b.length cv⟩ : En)]).length ≤ 2 * i + 2 := by omega
            clear hlen2 HM2
            generalize es' ++ [(⟨s, f, .slice Av f.b.length cv⟩ : En)] = es2 at *
            go_wp2_with (at_builtin; go_loud (refine wpList_append_own _ rfl _ _ 59 rfl W0.heap.size 66 i0 (.agg #[.string ⟨#[]⟩, .slice none 0 0, .int .i64 0, .bool false]) 4 56 Try.underlying59 HI.out.1 HI.out.2.1 HI.out.2.2.1 HI.out.2.2.2 rfl (by decide) (.slice A2 es2.length cap2) es2.length (enCells es2) rfl (HM3.out.own.alloc _) ⟨wp.heap.size, 0, none⟩ 1 1 [.string nm, .slice Ae ne ce, .int .i64 su, .bool ev] rfl rfl (cells_new _ _ _ _ rfl) (one_file _ _ _ _ _ _) ?h63OVB ?hbyOVB ?hbaOVB ?_))
            case h63OVB => unfold maxLen; omega
            case hbyOVB => omega
            case hbaOVB => have := HM3.out.below.size; simp; omega
            intro v4 w4 ho4 hg4 _
            have HM4 := Lib.hid (HM3.out.add es[i] HBE.out (HM3.out.below.alloc HM3.out.below.size _) (by rw [HCE.out]; exact ho4) hg4)
            have HP2 := Lib.hid (show PutTo fs s f (i + 1) true (fsOf (es2 ++ [es[i]])) from by rw [fsOf_snoc, HES.out, ← HFI2.out]; exact HP1.out)
            obtain ⟨A4, cap4, rfl⟩ := own_sl4 ho4
            clear ho4 hg4 HP1
            go_wp2
            go_roundw
            case rel => exact ⟨i + 1, true, es2 ++ [es[i]], by go_num, rfl, by omega, by rw [List.length_append]; simp; omega, HP2, HM4⟩
            case measure => simp [intOf]; omega
    · obtain rfl : i = es.length := by omega
      have x0 : wr.cell? ⟨w.heap.size, 0, none⟩ = some (.string s) := (HM.out.below.cell (p := ⟨w.heap.size, 0, none⟩) HX.out.1).trans HX.out.2.1
      have x1 : wr.cell? ⟨w.heap.size, 1, none⟩ = some (.slice Av f.b.length cv) := (HM.out.below.cell (p := ⟨w.heap.size, 1, none⟩) HX.out.1).trans HX.out.2.2.1
      have x2 : wr.cell? ⟨w.heap.size, 2, none⟩ = some (.int .i64 (f.sure : Int)) := (HM.out.below.cell (p := ⟨w.heap.size, 2, none⟩) HX.out.1).trans HX.out.2.2.2.1
      have x3 : wr.cell? ⟨w.heap.size, 3, none⟩ = some (.bool f.ever) := (HM.out.below.cell (p := ⟨w.heap.size, 3, none⟩) HX.out.1).trans HX.out.2.2.2.2
      have HPE := Lib.hid HP.out
      cases dn with
      | true =>
        have HQ := Lib.hid (fun w' (hw : w' = wr.setCell ⟨rb, 0, none⟩ (.slice A' es'.length cap')) => show post (.returned (.tuple #[])) w' from by
          rw [hw]; exact HFIN.out wr _ es' HM.out (by have := HPE.out; rw [← fsOf_len es, HFS.out] at this; exact this.endT))
        clear HFIN HM HP HPE
        go_wp2
        go_end0
        exact HQ.out _ rfl
      | false =>
        have HOq := Lib.hid HM.out.own
        have HBq := Lib.hid HM.out.below
        go_wp2_with (at_builtin; go_loud (refine wpList_append_own _ rfl _ _ 59 rfl W0.heap.size 66 i0 (.agg #[.string ⟨#[]⟩, .slice none 0 0, .int .i64 0, .bool false]) 4 56 Try.underlying59 HI.out.1 HI.out.2.1 HI.out.2.2.1 HI.out.2.2.2 rfl (by decide) (.slice A' es'.length cap') es'.length (enCells es') rfl (HOq.out.alloc _) ⟨wr.heap.size, 0, none⟩ 1 1 [.string s, .slice Av f.b.length cv, .int .i64 (f.sure : Int), .bool f.ever] rfl rfl (cells_new _ _ _ _ rfl) (one_file _ _ _ _ _ _) ?h63END ?hbyEND ?hbaEND ?_))
        case h63END => unfold maxLen; omega
        case hbyEND => omega
        case hbaEND => have := HBq.out.size; simp; omega
        intro v2 w2 ho2 hg2 _
        have HM2 := Lib.hid (HM.out.add (⟨s, f, .slice Av f.b.length cv⟩ : En) HV.out (HM.out.below.alloc HM.out.below.size _) ho2 hg2)
        have hf2 : w2.frozen? ⟨rb, 0, none⟩ = false := (HM2.out.below.frozen (p := ⟨rb, 0, none⟩) HRB.out.1).trans HRB.out.2.2
        have k0 : w2.cell? ⟨rb, 0, none⟩ = some (.slice A es.length cap) := (HM2.out.below.cell (p := ⟨rb, 0, none⟩) HRB.out.1).trans HRB.out.2.1
        obtain ⟨A2, cap2, rfl⟩ := own_sl4 ho2
        have HQ := Lib.hid (fun w' (hw : w' = w2.setCell ⟨rb, 0, none⟩ (.slice A2 (es'.length + 1) cap2)) => show post (.returned (.tuple #[])) w' from by
          rw [hw]; exact HFIN.out w2 _ (es' ++ [(⟨s, f, .slice Av f.b.length cv⟩ : En)]) HM2.out (by have := HPE.out; rw [← fsOf_len es, HFS.out] at this; rw [fsOf_snoc]; exact this.endF))
        clear HFIN HM HP HPE HM2 ho2 hg2 HOq HBq
        go_wp2
        go_end0
        exact HQ.out _ rfl
end Go.Proofs.Ytfgbaigpmhnoaaa
