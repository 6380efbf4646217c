/- cnf: a heap of places, kept in a walk's last field: its methods. -/
import Derived.Test.YtbniilajffjfcaaGreatDoorDmD2
import Derived.Test.YtbniilajffjfcaaGreatDoorDmB2
import Derived.Test.YtbniilajffjfcaaGreatDoorDmD7
import Derived.RegionTactic
import Derived.BigRegion
import Derived.Deep.RegionLaw
import Derived.Deep.AppendLies
set_option linter.unusedVariables false
set_option linter.unusedSimpArgs false
namespace Go.Proofs.YtbniilajffjfcaaGreatDoor
open Go.RowKit Go.BigFrame
open Cnf (at_ sw)

theorem ints_snoc (l : List Int) (x : Int) : ints (l ++ [x]) = ints l ++ [.int .i64 x] := by simp [ints]
theorem own_drewN {w : World} {base : Nat} {e : TypeId} {size : Nat} {v : Value} {n : Nat} {xs : List Value} (h : w.ownsRow base e size v n xs) (q : Nat) : (w.drewN q).ownsRow base e size v n xs := by
  induction q with
  | zero => exact h
  | succ q ih => exact ih.drew
def Like (w' X : World) : Prop := w'.heap = X.heap ∧ w'.os = X.os ∧ w'.output = X.output ∧ w'.tape = X.tape
theorem less_any (g i j cap : Nat) (h : List Int) (base : Nat) (w : World) (ho : w.ownsRow base 3 1 (.slice (some ⟨g, 0, none⟩) h.length cap) h.length (ints h)) (hi : i < h.length) (hj : j < h.length) (hn : h.length ≤ 8000000) :
    Calls Tryz.prog 125 #[.slice (some ⟨g, 0, none⟩) h.length cap, .int .i64 (i : Int), .int .i64 (j : Int)] w fun e w' => e = .returned (.bool (decide (at_ h i < at_ h j))) ∧ ∃ nq, w' = w.drewN nq := by
  have hgi : w.cell? ⟨g, i, none⟩ = some (.int .i64 (at_ h i)) := by
    rw [World.ownsRow.cellAt ho i (by omega)]; exact ints_get h i hi
  have hgj : w.cell? ⟨g, j, none⟩ = some (.int .i64 (at_ h j)) := by
    rw [World.ownsRow.cellAt ho j (by omega)]; exact ints_get h j hj
  clear ho
  generalize at_ h i = x at *
  generalize at_ h j = y at *
  have h1 : (i : Int) < (h.length : Int) := by omega
  have h2 : (j : Int) < (h.length : Int) := by omega
  generalize h.length = n at *
  go_enter Tryz.func125, Tryz.ntmps125
  go_wp2
  go_quiet (fail)
  go_wp2
  go_ret
  exact ⟨by rfl, _, rfl⟩
theorem swap_any (g i j cap : Nat) (h : List Int) (base : Nat) (w : World) (ho : w.ownsRow base 3 1 (.slice (some ⟨g, 0, none⟩) h.length cap) h.length (ints h)) (hi : i < h.length) (hj : j < h.length) (hn : h.length ≤ 8000000) :
    Calls Tryz.prog 129 #[.slice (some ⟨g, 0, none⟩) h.length cap, .int .i64 (i : Int), .int .i64 (j : Int)] w fun e w' => e = .returned (.tuple #[]) ∧ Like w' ((w.setCell ⟨g, i, none⟩ (.int .i64 (at_ h j))).setCell ⟨g, j, none⟩ (.int .i64 (at_ h i))) := by
  have hgi : w.cell? ⟨g, i, none⟩ = some (.int .i64 (at_ h i)) := by
    rw [World.ownsRow.cellAt ho i (by omega)]; exact ints_get h i hi
  have hgj : w.cell? ⟨g, j, none⟩ = some (.int .i64 (at_ h j)) := by
    rw [World.ownsRow.cellAt ho j (by omega)]; exact ints_get h j hj
  have hfi := World.ownsRow.frozenAt ho i
  have hfj := World.ownsRow.frozenAt ho j
  clear ho
  generalize at_ h i = x at *
  generalize at_ h j = y at *
  have h1 : (i : Int) < (h.length : Int) := by omega
  have h2 : (j : Int) < (h.length : Int) := by omega
  generalize h.length = n at *
  go_enter Tryz.func129, Tryz.ntmps129
  obtain ⟨v', hy'⟩ := cell?_setCell_some (w := w) (p := ⟨g, i, none⟩) (x := .int .i64 y) (q := ⟨g, j, none⟩) (v := .int .i64 y) hgj
  go_wp2
  go_region
  all_goals (go_end0; exact ⟨rfl, rfl, rfl, rfl, rfl⟩)
theorem Like.own {w' X : World} (h : Like w' X) {base size n : Nat} {e : TypeId} {v : Value} {xs : List Value} (ho : X.ownsRow base e size v n xs) : w'.ownsRow base e size v n xs := by
  unfold World.ownsRow at *
  rw [h.1]; exact ho
theorem Like.ch {w w' X : World} {M : Nat → Prop} (h : Like w' X) (hc : Ch w X M) : Ch w w' M :=
  ⟨h.2.1.trans hc.os, h.2.2.2.trans hc.tape, h.2.2.1.trans hc.output, by rw [h.1]; exact hc.size, fun k hk hn => by rw [h.1]; exact hc.block k hk hn⟩
theorem ints_sw (h : List Int) (i j : Nat) : ints (sw h i j) = ((ints h).set i (.int .i64 (at_ h j))).set j (.int .i64 (at_ h i)) := by
  unfold ints sw
  rw [List.map_set, List.map_set]
/-- Swap, in a row's words. -/
theorem swap_row (g i j cap : Nat) (h : List Int) (base : Nat) (w : World) (ho : w.ownsRow base 3 1 (.slice (some ⟨g, 0, none⟩) h.length cap) h.length (ints h)) (hi : i < h.length) (hj : j < h.length) (hn : h.length ≤ 8000000) :
    Calls Tryz.prog 129 #[.slice (some ⟨g, 0, none⟩) h.length cap, .int .i64 (i : Int), .int .i64 (j : Int)] w fun e w' => e = .returned (.tuple #[]) ∧ w'.ownsRow base 3 1 (.slice (some ⟨g, 0, none⟩) h.length cap) h.length (ints (sw h i j)) ∧ Ch w w' (fun b => b = g) := by
  have h1 := (World.ownsRow.stored (World.ownsRow.stored ho i (.int .i64 (at_ h j))).1 j (.int .i64 (at_ h i))).1
  rw [← ints_sw] at h1
  have h2 : Ch w ((w.setCell ⟨g, i, none⟩ (.int .i64 (at_ h j))).setCell ⟨g, j, none⟩ (.int .i64 (at_ h i))) (fun b => b = g) := ((Ch.refl w (fun b => b = g)).setCell (p := ⟨g, i, none⟩) rfl _).setCell (p := ⟨g, j, none⟩) rfl _
  refine (swap_any g i j cap h base w ho hi hj hn).mono ?_
  intro e w' hl
  exact ⟨hl.1, hl.2.own h1, hl.2.ch h2⟩
end Go.Proofs.YtbniilajffjfcaaGreatDoor

/- cnf: a heap of places: Len, Push, Pop, and how they are found behind an interface. -/
namespace Go.Proofs.YtbniilajffjfcaaGreatDoor
open Go.RowKit Go.BigFrame
open Cnf (at_ sw)

/-- A heap's row h, kept in field 7 of the struct in block g. -/
structure Rdy (w : World) (base g : Nat) (cs : Array Value) (yv : Value) (h : List Int) : Prop where
  blk : w.heap[g]? = some (.cells cs 86 (0, 0))
  at7 : cs[0]? = some yv
  own : w.ownsRow base 3 1 yv h.length (ints h)
  ne : yv.ownBlock ≠ some g
def Two (g : Nat) (yv : Value) : Nat → Prop := fun b => b = g ∨ yv.ownBlock = some b
theorem Rdy.cell {w : World} {base g : Nat} {cs : Array Value} {yv : Value} {h : List Int} (H : Rdy w base g cs yv h) : w.cell? ⟨g, 0, none⟩ = some yv ∧ w.frozen? ⟨g, 0, none⟩ = false :=
  ⟨(blk_cell H.blk 0).trans H.at7, blk_free H.blk 0⟩
theorem Rdy.size {w : World} {base g : Nat} {cs : Array Value} {yv : Value} {h : List Int} (H : Rdy w base g cs yv h) : 0 < cs.size := by
  have := H.at7
  by_cases c : 0 < cs.size
  · exact c
  · rw [Array.getElem?_eq_none (by omega)] at this; cases this
theorem rdy_set {w : World} {base g : Nat} {cs : Array Value} (hg : w.heap[g]? = some (.cells cs 86 (0, 0))) (h7 : 0 < cs.size) {v' : Value} {h' : List Int} (ho : w.ownsRow base 3 1 v' h'.length (ints h')) (hn : v'.ownBlock ≠ some g) : Rdy (w.setCell ⟨g, 0, none⟩ v') base g (cs.setIfInBounds 0 v') v' h' :=
  ⟨blk_set hg 0 v', by simp [h7], ownsRow_setCell_other ho (a := ⟨g, 0, none⟩) hn v', hn⟩
theorem len_any (A : Option Addr) (n cap : Nat) (w : World) : Calls Tryz.prog 52 #[.slice A n cap] w fun e w' => e = .returned (.int .i64 (n : Int)) ∧ w' = w := by
  go_enter Tryz.func52, Tryz.ntmps52
  go_wp2
  go_ret
  exact ⟨rfl, rfl⟩
def PushPost (base g : Nat) (cs : Array Value) (yv : Value) (h : List Int) (w : World) (e : Ending) (w' : World) : Prop :=
  e = .returned (.tuple #[]) ∧ ∃ v', Rdy w' base g (cs.setIfInBounds 0 v') v' h ∧ Ch w w' (Two g yv) ∧ Moved w yv v'
set_option maxRecDepth 100000 in
set_option maxHeartbeats 1000000 in
theorem push_any (x : Int) (base g : Nat) (cs : Array Value) (yv : Value) (h : List Int) (w : World) (H : Rdy w base g cs yv h) (hbase : base ≤ w.heap.size) (hn : h.length ≤ 8000000) :
    Calls Tryz.prog 127 #[.pointer (some ⟨g, 0, none⟩), .iface 3 (.int .i64 x)] w (PushPost base g cs yv (h ++ [x]) w) := by
  obtain ⟨i0, hi, hz0, hz1, hz2⟩ := info_parts infoInt
  obtain ⟨hcell, hfr⟩ := H.cell
  have HH := Lib.hid H
  have hgl := block_lt H.blk
  have HP := Lib.hid (fun (e : Ending) (w' : World) (he : e = .returned (.tuple #[])) (v' : Value) (h1 : Rdy w' base g (cs.setIfInBounds 0 v') v' (h ++ [x])) (h2 : Ch w w' (Two g yv)) (h3 : Moved w yv v') => show PushPost base g cs yv (h ++ [x]) w e w' from ⟨he, v', h1, h2, h3⟩)
  generalize PushPost base g cs yv (h ++ [x]) w = post at *
  have hta : ∀ w, (Instr.typeAssert (.iface 3 (.int .i64 x)) 20 3 false).run Tryz.prog w = .ok (.int .i64 x) w := fun _ => by kernel_rfl
  have hgz : ((w.alloc (.cells #[.int .i64 x] 3)).drew).heap[g]? = some (.cells cs 86 (0, 0)) := (old_block w _ _ hgl).trans H.blk
  have HOZ := Lib.hid ((H.own.alloc (.cells #[.int .i64 x] 3)).drew)
  have hnz : ((w.alloc (.cells #[.int .i64 x] 3)).drew).heap[w.heap.size]? = some (.cells #[.int .i64 x] 3) := heap_alloc_new w _
  have HNZ := Lib.hid (World.news_of_block hnz)
  have hcA := (blk_cell hgz 0).trans H.at7
  have hfA := blk_free hgz 0
  have HGZ := Lib.hid hgz
  have HCA := Lib.hid hcA
  have HFA := Lib.hid hfA
  have HNE := Lib.hid H.ne
  clear H hgz hnz
  go_enter Tryz.func127, Tryz.ntmps127
  go_wp2_with fail
  go_region_law ((refine step_append_lies _ (by rfl) _ _ _ (by rfl) base 3 i0 _ 1 8 Tryz.underlying84 hi hz0 hz1 hz2 rfl (by omega) yv h.length _ (by rfl) HOZ.out ⟨w.heap.size, 0, none⟩ 1 1 [.int .i64 x] (by rfl) (by rfl) HNZ.out (by intro u hu; simp at hu; subst hu; rfl) (by omega) (by unfold maxLen; omega) (by omega) (by simp; omega) (w.heap.size + 1) (by simp) ?_; intro gg cap w1 hown1 hgrow hat hlt1; have hc1 := (hgrow.cell_far ⟨g, 0, none⟩ (by simp; omega) (fun e => HNE.out e.symm)).trans HCA.out; have hf1 := (hgrow.frozen_far ⟨g, 0, none⟩ (by simp; omega) (fun e => HNE.out e.symm)).trans HFA.out))
  all_goals
    have hmv1 : Moved ((w.alloc (.cells #[.int .i64 x] 3)).drew) yv (.slice (some ⟨gg, 0, none⟩) (h.length + 1) cap) := by
      rcases hat with h | h
      · exact .inl h.symm
      · exact .inr ⟨gg, rfl, by simp; omega⟩
    have hne1 := hmv1.ne (by simp; omega) HNE.out
    have hmv2 : Moved w yv (.slice (some ⟨gg, 0, none⟩) (h.length + 1) cap) := (Moved.refl w yv).trans hmv1 (by simp)
    have hg1 := kept HGZ.out hgrow (fun e => HNE.out e.symm)
    have hown2 : w1.ownsRow base 3 1 (.slice (some ⟨gg, 0, none⟩) (h.length + 1) cap) (h ++ [x]).length (ints (h ++ [x])) := by
      rw [ints_snoc, List.length_append]; exact hown1
    have hch : Ch w w1 (Two g yv) := (((Ch.refl w _).alloc (.cells #[.int .i64 x] 3)).drew).grown hgrow fun k hk e => .inr e
    have HR := Lib.hid (rdy_set hg1 HH.out.size hown2 hne1)
    have HC := Lib.hid (hch.setCell (p := ⟨g, 0, none⟩) (.inl rfl) (.slice (some ⟨gg, 0, none⟩) (h.length + 1) cap))
    have HM := Lib.hid hmv2
    clear hmv1 hne1 hmv2 hg1 hown2 hch hgrow hown1 HGZ HOZ HNZ HCA HFA hc1 hf1 hcA hfA hat
    go_wp2_with fail
    go_end0
    exact HP.out _ _ rfl _ HR.out HC.out HM.out
/-- Pop: the last one. -/
def PopPost (base g : Nat) (cs : Array Value) (yv : Value) (h : List Int) (x : Int) (w : World) (e : Ending) (w' : World) : Prop :=
  e = .returned (.iface 3 (.int .i64 x)) ∧ ∃ v', Rdy w' base g (cs.setIfInBounds 0 v') v' h ∧ Ch w w' (Two g yv) ∧ v'.ownBlock = yv.ownBlock
set_option maxRecDepth 100000 in
set_option maxHeartbeats 1000000 in
theorem pop_any (base g : Nat) (cs : Array Value) (yv : Value) (h : List Int) (x : Int) (w : World) (H : Rdy w base g cs yv (h ++ [x])) (hn : h.length ≤ 8000000) :
    Calls Tryz.prog 126 #[.pointer (some ⟨g, 0, none⟩)] w (PopPost base g cs yv h x w) := by
  obtain ⟨hcell, hfr⟩ := H.cell
  have HS := H.size
  have HG := Lib.hid H.blk
  obtain ⟨y, cap, rfl, hy, hyl, hnc, hcm⟩ := own_at H.own (by simp)
  have hlen : (h ++ [x]).length = h.length + 1 := by simp
  rw [hlen] at hnc
  have hcx : w.cell? ⟨y, h.length, none⟩ = some (.int .i64 x) := by
    rw [World.ownsRow.cellAt H.own h.length (by omega), ints_get _ _ (by omega)]
    simp [List.getD]
  have ho2 := own_cut H.own (by simp) (show h.length ≤ (h ++ [x]).length by omega)
  rw [show (ints (h ++ [x])).take h.length = ints h by rw [ints_snoc, List.take_left' (ints_len h)]] at ho2
  have HO := Lib.hid ho2
  have HNE := Lib.hid H.ne
  rw [hlen] at hcell
  have HP := Lib.hid (fun (e : Ending) (w' : World) (he : e = .returned (.iface 3 (.int .i64 x))) (v' : Value) (h1 : Rdy w' base g (cs.setIfInBounds 0 v') v' h) (h2 : Ch w w' (Two g (.slice (some ⟨y, 0, none⟩) (h ++ [x]).length cap))) (h3 : v'.ownBlock = (Value.slice (some ⟨y, 0, none⟩) (h ++ [x]).length cap).ownBlock) => show PopPost base g cs (.slice (some ⟨y, 0, none⟩) (h ++ [x]).length cap) h x w e w' from ⟨he, v', h1, h2, h3⟩)
  generalize PopPost base g cs (.slice (some ⟨y, 0, none⟩) (h ++ [x]).length cap) h x w = post at *
  have hl0 : IntKind.i64.wrap (((h.length + 1 : Nat) : Int) - 1) = (h.length : Int) := by rw [show (((h.length + 1 : Nat) : Int) - 1) = (h.length : Int) by omega]; exact IntWalk.i64_in _ (by omega)
  have HR := Lib.hid (rdy_set HG.out HS ho2 (by exact HNE.out))
  have HC := Lib.hid ((Ch.refl w (Two g (.slice (some ⟨y, 0, none⟩) (h ++ [x]).length cap))).setCell (p := ⟨g, 0, none⟩) (.inl rfl) (.slice (some ⟨y, 0, none⟩) h.length cap))
  clear H ho2
  unfold maxLen at hcm
  go_enter Tryz.func126, Tryz.ntmps126
  go_wp2
  exact HP.out _ _ rfl _ HR.out HC.out rfl
end Go.Proofs.YtbniilajffjfcaaGreatDoor

/- drv: container/heap over least. (265 is the number of types and 100.) -/
namespace Go.Proofs.YtbniilajffjfcaaGreatDoor
open Go.RowKit Go.BigFrame
open Cnf (at_ sw UpOk DownOk Heaped)

/-- The heap behind its interface. -/
def hp (g : Nat) : Value := .iface 83 (.pointer (some ⟨g, 0, none⟩))

theorem m_push (a : Addr) (w : World) : (method 266 83 (.pointer (some a)) "Push").run Tryz.prog w = .ok (127, .pointer (some a)) w := by kernel_rfl
theorem m_pop (a : Addr) (w : World) : (method 266 83 (.pointer (some a)) "Pop").run Tryz.prog w = .ok (126, .pointer (some a)) w := by kernel_rfl
theorem m_len0 (a : Addr) (w : World) : (method 266 83 (.pointer (some a)) "Len").run Tryz.prog w = (do let v ← load a; pure (52, v) : Sem (FuncId × Value)).run Tryz.prog w := by kernel_rfl
theorem m_len (a : Addr) (v : Value) (w : World) (h : w.cell? a = some v) : (method 266 83 (.pointer (some a)) "Len").run Tryz.prog w = .ok (52, v) w := by
  rw [m_len0]; simp [h]
theorem m_less0 (a : Addr) (w : World) : (method 266 83 (.pointer (some a)) "Less").run Tryz.prog w = (do let v ← load a; pure (125, v) : Sem (FuncId × Value)).run Tryz.prog w := by kernel_rfl
theorem m_less (a : Addr) (v : Value) (w : World) (h : w.cell? a = some v) : (method 266 83 (.pointer (some a)) "Less").run Tryz.prog w = .ok (125, v) w := by
  rw [m_less0]; simp [h]
theorem m_swap0 (a : Addr) (w : World) : (method 266 83 (.pointer (some a)) "Swap").run Tryz.prog w = (do let v ← load a; pure (129, v) : Sem (FuncId × Value)).run Tryz.prog w := by kernel_rfl
theorem m_swap (a : Addr) (v : Value) (w : World) (h : w.cell? a = some v) : (method 266 83 (.pointer (some a)) "Swap").run Tryz.prog w = .ok (129, v) w := by
  rw [m_swap0]; simp [h]
end Go.Proofs.YtbniilajffjfcaaGreatDoor

/- cnf: container/heap over places: up and down. -/
namespace Go.Proofs.YtbniilajffjfcaaGreatDoor
open Go.RowKit Go.BigFrame
open Cnf (at_ sw UpOk DownOk Heaped)

def UpPost (base g : Nat) (cs : Array Value) (yv : Value) (h : List Int) (w : World) (w' : World) : Prop :=
  ∃ h', Rdy w' base g cs yv h' ∧ Ch w w' (fun b => yv.ownBlock = some b) ∧ Heaped h' h'.length ∧ (∀ x, x ∈ h' ↔ x ∈ h) ∧ h'.length = h.length
theorem sw_comm (h : List Int) (i j : Nat) (hne : i ≠ j) : sw h i j = sw h j i := by
  unfold sw
  rw [List.set_comm _ _ hne]
theorem less_n (g i j n cap : Nat) (h : List Int) (base : Nat) (w : World) (hl : h.length = n) (ho : w.ownsRow base 3 1 (.slice (some ⟨g, 0, none⟩) n cap) h.length (ints h)) (hi : i < n) (hj : j < n) (hn : n ≤ 8000000) :
    Calls Tryz.prog 125 #[.slice (some ⟨g, 0, none⟩) n cap, .int .i64 (i : Int), .int .i64 (j : Int)] w fun e w' => e = .returned (.bool (decide (at_ h i < at_ h j))) ∧ ∃ nq, w' = w.drewN nq := by
  subst hl
  exact less_any g i j cap h base w ho hi hj hn
theorem swap_n (g i j n cap : Nat) (h : List Int) (base : Nat) (w : World) (hl : h.length = n) (ho : w.ownsRow base 3 1 (.slice (some ⟨g, 0, none⟩) n cap) h.length (ints h)) (hi : i < n) (hj : j < n) (hn : n ≤ 8000000) :
    Calls Tryz.prog 129 #[.slice (some ⟨g, 0, none⟩) n cap, .int .i64 (i : Int), .int .i64 (j : Int)] w fun e w' => e = .returned (.tuple #[]) ∧ w'.ownsRow base 3 1 (.slice (some ⟨g, 0, none⟩) n cap) h.length (ints (sw h i j)) ∧ Ch w w' (fun b => b = g) := by
  subst hl
  exact swap_row g i j cap h base w ho hi hj hn
theorem Rdy.drewN {w : World} {base g : Nat} {cs : Array Value} {yv : Value} {h : List Int} (H : Rdy w base g cs yv h) (q : Nat) : Rdy (w.drewN q) base g cs yv h :=
  ⟨by rw [heap_drewN]; exact H.blk, H.at7, own_drewN H.own q, H.ne⟩
theorem Rdy.swap {w w' : World} {base g : Nat} {cs : Array Value} {y n cap : Nat} {h h' : List Int} (H : Rdy w base g cs (.slice (some ⟨y, 0, none⟩) n cap) h) (hc : Ch w w' (fun b => b = y)) (ho : w'.ownsRow base 3 1 (.slice (some ⟨y, 0, none⟩) n cap) h'.length (ints h')) : Rdy w' base g cs (.slice (some ⟨y, 0, none⟩) n cap) h' :=
  ⟨hc.heap H.blk fun e => H.ne (by rw [e]; rfl), H.at7, ho, H.ne⟩
set_option maxRecDepth 100000 in
set_option maxHeartbeats 1000000 in
theorem up_n (base g j y n cap : Nat) (cs : Array Value) (h : List Int) (w : World) (hl : h.length = n) (H : Rdy w base g cs (.slice (some ⟨y, 0, none⟩) n cap) h) (hj : j < n) (hu : UpOk h j) (hn : n ≤ 8000000) :
    Calls Tryz.prog 73 #[hp g, .int .i64 (j : Int)] w fun e w' => e = .returned (.tuple #[]) ∧ UpPost base g cs (.slice (some ⟨y, 0, none⟩) n cap) h w w' := by
  have HP := Lib.hid (fun (w' : World) (h' : List Int) (h1 : Rdy w' base g cs (.slice (some ⟨y, 0, none⟩) n cap) h') (h2 : Ch w w' (fun b => b = y)) (h3 : Heaped h' h'.length) (h4 : ∀ x, x ∈ h' ↔ x ∈ h) (h5 : h'.length = n) => show UpPost base g cs (.slice (some ⟨y, 0, none⟩) n cap) h w w' from ⟨h', h1, h2.weak (fun k _ e => by rw [e]; rfl), h3, h4, h5.trans hl.symm⟩)
  generalize UpPost base g cs (.slice (some ⟨y, 0, none⟩) n cap) h w = post at *
  unfold hp
  have HL0 := Lib.hid hl
  have HH := Lib.hid H
  have HU := Lib.hid hu
  clear H hu hl
  go_enter Tryz.func73, Tryz.ntmps73
  go_wp2
  go_loopw [1, 4] (fun jv _ wr => ∃ (k : Nat) (l : List Int), k < n ∧ jv = .int .i64 k ∧ Hid (l.length = n) ∧ Hid (Rdy wr base g cs (.slice (some ⟨y, 0, none⟩) n cap) l) ∧ Hid (Ch w wr (fun b => b = y)) ∧ Hid (UpOk l k) ∧ Hid (∀ x, x ∈ l ↔ x ∈ h)) (fun jv _ _ => (intOf jv).toNat)
  case atStart => exact ⟨j, h, hj, rfl, HL0, HH, Lib.hid (Ch.refl _ _), HU, Lib.hid fun x => Iff.rfl⟩
  case round =>
    clear HH HU
    obtain ⟨k, l, hk, rfl, HL, HR, HC, HU, HM⟩ := hrel
    have hcell := HR.out.cell.1
    by_cases h0 : k = 0
    · subst h0
      have HD := Lib.hid (HU.out.done (.inl rfl))
      go_wp2
      go_end0
      exact ⟨rfl, HP.out _ l HR.out HC.out HD.out HM.out HL.out⟩
    · obtain ⟨p, hp⟩ : ∃ p, p = (k - 1) / 2 := ⟨_, rfl⟩
      have hp1 : ((k : Int) - 1) / 2 = (p : Int) := by omega
      have hp2 : p < k := by omega
      have hp3 : ¬ (p : Int) = (k : Int) := by omega
      have hml := m_less ⟨g, 0, none⟩ _ wr hcell
      have HL2 := Lib.hid (less_n y k p n cap l base wr HL.out HR.out.own hk (by omega) hn)
      cases hlt : decide (at_ l k < at_ l p)
      · rw [hlt] at HL2
        have HD := Lib.hid (HU.out.done (.inr (by rw [← hp]; have := of_decide_eq_false hlt; omega)))
        clear hlt hp
        go_wp2_with fail
        refine HL2.out.mono ?_
        rintro e w' ⟨rfl, nq, hw⟩
        obtain rfl := hw.symm
        go_wp2
        go_end0
        exact ⟨rfl, HP.out _ l (HR.out.drewN nq) (HC.out.drewN nq) HD.out HM.out HL.out⟩
      · rw [hlt] at HL2
        have HU' : Hid (UpOk (sw l k p) p) := Lib.hid (by
          rw [hp]
          exact HU.out.step (by omega) (by have := HL.out; omega) (by rw [← hp]; exact of_decide_eq_true hlt))
        clear hlt hp
        go_wp2_with fail
        refine HL2.out.mono ?_
        rintro e w1 ⟨rfl, nq, hw⟩
        have HR1 := Lib.hid (HR.out.drewN nq)
        have HC1 := Lib.hid (HC.out.drewN nq)
        rw [← hw] at HR1 HC1
        have HSW := Lib.hid (swap_n y p k n cap l base w1 HL.out HR1.out.own (by omega) hk hn)
        have hms := m_swap ⟨g, 0, none⟩ _ w1 HR1.out.cell.1
        clear hw hml hcell
        go_wp2_with fail
        refine HSW.out.mono ?_
        rintro e w2 ⟨rfl, ho2, hc2⟩
        have hsl : (sw l p k).length = n := (Cnf.sw_len l p k).trans HL.out
        rw [show l.length = (sw l p k).length from (Cnf.sw_len l p k).symm] at ho2
        have HR2 := Lib.hid (HR1.out.swap hc2 ho2)
        have HC2 := Lib.hid (HC1.out.trans hc2 fun _ _ h => h)
        have HSL := Lib.hid hsl
        have HM2 : Hid (∀ x, x ∈ sw l p k ↔ x ∈ h) := Lib.hid fun x => (Cnf.sw_mem l p k (by have := HL.out; omega) (by have := HL.out; omega) x).trans (HM.out x)
        have HU2 : Hid (UpOk (sw l p k) p) := Lib.hid (by rw [sw_comm l p k (by omega)]; exact HU'.out)
        clear ho2 hc2 hsl hms
        go_wp2
        go_roundw
        case rel => exact ⟨p, sw l p k, by omega, rfl, HSL, HR2, HC2, HU2, HM2⟩
        case measure => simp [intOf]; omega
end Go.Proofs.YtbniilajffjfcaaGreatDoor
