/- The comparison that Sort hands over, in the worlds of a sort. -/
import Derived.Test.YtijepjoklmblhaaDoorVerL
import Derived.Shelf.SlSortCmp.InsertionK
import Derived.Sort.LotA
namespace Go.Proofs.YtijepjoklmblhaaDoor
open Go.RowKit Go.BigFrame
open Ver (prs cmpV BL)
open Go.Sort (PermIn SortedIn SWO putRow flatK putRowK HoldsK)

theorem cell_three {w : World} {g : Nat} {T : TypeId} {x y z : Value} (h : w.heap[g]? = some (.cells #[x, y, z] T (0, 0))) : w.cell? ⟨g, 0, none⟩ = some x ∧ w.cell? ⟨g, 1, none⟩ = some y ∧ w.cell? ⟨g, 2, none⟩ = some z :=
  ⟨by rw [cell_of_row _ _ _ _ _ _ h]; rfl, by rw [cell_of_row _ _ _ _ _ _ h]; rfl, by rw [cell_of_row _ _ _ _ _ _ h]; rfl⟩
theorem sortedV_swo {α : Type} : ∀ (f : α → List Int × BL), SWO (ltOf fun x y : α => cmpV (f x) (f y)) := fun f => {
  irrefl := fun x => by
    show decide (cmpV (f x) (f x) < 0) = false
    rw [(Ver.cmpV_ord.zero _ _).2 rfl]; rfl
  trans := fun x y z h1 h2 => by
    replace h1 : decide (cmpV (f x) (f y) < 0) = true := h1
    replace h2 : decide (cmpV (f y) (f z) < 0) = true := h2
    show decide (cmpV (f x) (f z) < 0) = true
    simp only [decide_eq_true_eq] at *
    exact Ver.cmpV_ord.strict _ _ _ h1 (by omega)
  ntrans := fun x y z h1 h2 => by
    replace h1 : decide (cmpV (f x) (f y) < 0) = false := h1
    replace h2 : decide (cmpV (f y) (f z) < 0) = false := h2
    show decide (cmpV (f x) (f z) < 0) = false
    simp only [decide_eq_false_iff_not] at *
    have a1 := Ver.cmpV_ord.anti (f x) (f y)
    have a2 := Ver.cmpV_ord.anti (f y) (f z)
    have a3 := Ver.cmpV_ord.anti (f x) (f z)
    have := Ver.cmpV_ord.trans (f z) (f y) (f x) (by omega) (by omega)
    omega }
set_option maxRecDepth 100000 in
set_option maxHeartbeats 800000 in
theorem closure_any (x y : Item) (W : World) (hx : Reads W W.heap.size x.v (ints x.xs)) (hy : Reads W W.heap.size y.v (ints y.xs)) (hs : x.tag.size ≤ 16) (ht : y.tag.size ≤ 16) :
    Calls Tryd.prog 36 #[.agg #[x.v, .string x.tag, .string x.text], .agg #[y.v, .string y.tag, .string y.text]] W fun e w' => e = .returned (.int .i64 (cmpV (x.xs, x.tag.data.toList) (y.xs, y.tag.data.toList))) ∧ Grew W w' := by
  have HA := Lib.hid hx
  have HB := Lib.hid hy
  clear hx hy
  obtain ⟨xv, xi, xt, xx⟩ := x
  obtain ⟨yv, yi, yt, yx⟩ := y
  dsimp only at *
  go_enter Tryd.func36, Tryd.ntmps36
  go_upto_region 1 with (fail)
  obtain ⟨W1, hW1, hg0, hg1, hb1, hz1⟩ := rows2 W (.cells #[xv, .string xt, .string xx] 62) (.cells #[yv, .string yt, .string yx] 62)
  rw [← hW1]
  have hgw : Grew W W1 := by rw [hW1]; exact ((Grew.refl W).alloc _).alloc _
  clear hW1
  have HA1 := Lib.hid (HA.out.below hb1)
  have HB1 := Lib.hid (HB.out.below hb1)
  obtain ⟨hc0, hc1, _⟩ := cell_three hg0
  obtain ⟨hd0, hd1, _⟩ := cell_three hg1
  have hzz : W.heap.size ≤ W1.heap.size := hb1.size
  clear hg0 hg1 HA HB hb1 hz1
  go_wp2_with (go_at_call 11; refine (compare_any _ _ _ _ xt yt W.heap.size _ HA1.out HB1.out hzz (by omega) (by omega)).mono ?_; rintro e w5 ⟨rfl, hb5⟩)
  go_ret
  exact ⟨rfl, hgw.trans hb5⟩
/-- What lies in no block of the row reads alike in every world of the sort. -/
theorem reads_sort {α : Type} [Inhabited α] {enc : α → List Value} {k m g : Nat} {dk : Array α} {os : Array Obj} {w : World} {v : Value} {xs : List Value} (h : Reads w w.heap.size v xs) (ha : Away v (some g)) :
    Reads (sortWorldK enc k w g 0 m dk os) (sortWorldK enc k w g 0 m dk os).heap.size v xs := by
  obtain ⟨A, cap, rfl, h1, h2, h3, h4⟩ := h
  refine ⟨A, cap, rfl, h1, h2, h3, fun hn => ?_⟩
  obtain ⟨ad, rfl, hl, hc⟩ := h4 hn
  have hsz : (putRowK enc k (Sort.ahead w m) g 0 dk).heap.size = w.heap.size := by unfold putRowK; rw [Sort.size_putRow]; rfl
  refine ⟨ad, rfl, ?_, fun j u hu => ?_⟩
  · unfold sortWorldK
    rw [Sort.size_grow, hsz]; omega
  · have hne : (ad.add j).block ≠ g := by rw [add_block]; exact fun e => ha ad.block rfl (by rw [e])
    unfold sortWorldK
    rw [Sort.cell?_grow _ _ _ (by rw [add_block, hsz]; exact hl), Sort.cell?_putRowK_other _ _ _ _ _ _ _ hne]
    exact hc j u hu
/-- The items of a row, with what each reads as. -/
structure It (w : World) (p : Option Nat) where
  it : Item
  ok : it.OK w p
def encI (w : World) (p : Option Nat) (x : It w p) : List Value := x.1.enc
def cmpItem (w : World) (p : Option Nat) (x y : It w p) : Int := cmpV (x.1.xs, x.1.tag.data.toList) (y.1.xs, y.1.tag.data.toList)
theorem cmpItem_text (w : World) (p : Option Nat) (x y : It w p) : cmpItem w p x y = cmpS x.1.text y.1.text := by
  unfold cmpItem cmpS
  rw [if_pos ⟨x.2.ok, y.2.ok⟩, x.2.ver, y.2.ver]
theorem cmp_lays (w : World) (g size : Nat) [Inhabited (It w (some g))] : CmpLays Tryd.prog 36 #[] (encI w (some g)) 3 (cmpItem w (some g)) g 0 size w := fun m os dk _ x y => by
  refine (closure_any x.1 y.1 _ (reads_sort x.2.reads x.2.away) (reads_sort y.2.reads y.2.away) x.2.short y.2.short).mono ?_
  rintro e w' ⟨rfl, q, os', rfl⟩
  exact ⟨rfl, q, os', rfl⟩
end Go.Proofs.YtijepjoklmblhaaDoor
