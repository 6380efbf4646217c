/- cnf: a heap of places, kept in a walk's last field: its methods. -/
import Derived.Test.YtapaoccpbcjgeaaCnmX
import Derived.Test.YtapaoccpbcjgeaaCnmP
import Derived.RegionTactic
import Derived.BigRegion
import Derived.Deep.RegionLaw
import Derived.Deep.AppendLies
namespace Go.Proofs.Ytapaoccpbcjgeaa
open Go.RowKit Go.BigFrame
open Cnf (at_ sw)

def Like (w' X : World) : Prop := w'.heap = X.heap ∧ w'.os = X.os ∧ w'.output = X.output ∧ w'.tape = X.tape
theorem less_any (g i j cap : Nat) (h : List Int) (base : Nat) (w : World) (ho : w.ownsRow base 3 1 (.slice (some ⟨g, 0, none⟩) h.length cap) h.length (ints h)) (hi : i < h.length) (hj : j < h.length) (_hn : h.length ≤ 8000000) :
    Calls Try.prog 101 #[.slice (some ⟨g, 0, none⟩) h.length cap, .int .i64 (i : Int), .int .i64 (j : Int)] w fun e w' => e = .returned (.bool (decide (at_ h i < at_ h j))) ∧ ∃ nq, w' = w.drewN nq := by
  have hgi : w.cell? ⟨g, i, none⟩ = some (.int .i64 (at_ h i)) := by
    rw [World.ownsRow.cellAt ho i (by omega)]; exact ints_get h i hi
  have hgj : w.cell? ⟨g, j, none⟩ = some (.int .i64 (at_ h j)) := by
    rw [World.ownsRow.cellAt ho j (by omega)]; exact ints_get h j hj
  clear ho
  generalize at_ h i = x at *
  generalize at_ h j = y at *
  have h1 : (i : Int) < (h.length : Int) := by omega
  have h2 : (j : Int) < (h.length : Int) := by omega
  generalize h.length = n at *
  go_enter Try.func101, Try.ntmps101
  go_wp2
  go_quiet (fail)
  go_wp2
  go_ret
  exact ⟨by rfl, _, rfl⟩
theorem swap_any (g i j cap : Nat) (h : List Int) (base : Nat) (w : World) (ho : w.ownsRow base 3 1 (.slice (some ⟨g, 0, none⟩) h.length cap) h.length (ints h)) (hi : i < h.length) (hj : j < h.length) (_hn : h.length ≤ 8000000) :
    Calls Try.prog 102 #[.slice (some ⟨g, 0, none⟩) h.length cap, .int .i64 (i : Int), .int .i64 (j : Int)] w fun e w' => e = .returned (.tuple #[]) ∧ Like w' ((w.setCell ⟨g, i, none⟩ (.int .i64 (at_ h j))).setCell ⟨g, j, none⟩ (.int .i64 (at_ h i))) := by
  have hgi : w.cell? ⟨g, i, none⟩ = some (.int .i64 (at_ h i)) := by
    rw [World.ownsRow.cellAt ho i (by omega)]; exact ints_get h i hi
  have hgj : w.cell? ⟨g, j, none⟩ = some (.int .i64 (at_ h j)) := by
    rw [World.ownsRow.cellAt ho j (by omega)]; exact ints_get h j hj
  have hfi := World.ownsRow.frozenAt ho i
  have hfj := World.ownsRow.frozenAt ho j
  clear ho
  generalize at_ h i = x at *
  generalize at_ h j = y at *
  have h1 : (i : Int) < (h.length : Int) := by omega
  have h2 : (j : Int) < (h.length : Int) := by omega
  generalize h.length = n at *
  go_enter Try.func102, Try.ntmps102
  obtain ⟨v', hy'⟩ := cell?_setCell_some (w := w) (p := ⟨g, i, none⟩) (x := .int .i64 y) (q := ⟨g, j, none⟩) (v := .int .i64 y) hgj
  go_wp2
  go_region
  all_goals (go_end0; exact ⟨rfl, rfl, rfl, rfl, rfl⟩)
theorem Like.own {w' X : World} (h : Like w' X) {base size n : Nat} {e : TypeId} {v : Value} {xs : List Value} (ho : X.ownsRow base e size v n xs) : w'.ownsRow base e size v n xs := by
  unfold World.ownsRow at *
  rw [h.1]; exact ho
theorem Like.ch {w w' X : World} {M : Nat → Prop} (h : Like w' X) (hc : Ch w X M) : Ch w w' M :=
  ⟨h.2.1.trans hc.os, h.2.2.2.trans hc.tape, h.2.2.1.trans hc.output, by rw [h.1]; exact hc.size, fun k hk hn => by rw [h.1]; exact hc.block k hk hn⟩
theorem ints_sw (h : List Int) (i j : Nat) : ints (sw h i j) = ((ints h).set i (.int .i64 (at_ h j))).set j (.int .i64 (at_ h i)) := by
  unfold ints sw
  rw [List.map_set, List.map_set]
/-- Swap, in a row's words. -/
theorem swap_row (g i j cap : Nat) (h : List Int) (base : Nat) (w : World) (ho : w.ownsRow base 3 1 (.slice (some ⟨g, 0, none⟩) h.length cap) h.length (ints h)) (hi : i < h.length) (hj : j < h.length) (hn : h.length ≤ 8000000) :
    Calls Try.prog 102 #[.slice (some ⟨g, 0, none⟩) h.length cap, .int .i64 (i : Int), .int .i64 (j : Int)] w fun e w' => e = .returned (.tuple #[]) ∧ w'.ownsRow base 3 1 (.slice (some ⟨g, 0, none⟩) h.length cap) h.length (ints (sw h i j)) ∧ Ch w w' (fun b => b = g) := by
  have h1 := (World.ownsRow.stored (World.ownsRow.stored ho i (.int .i64 (at_ h j))).1 j (.int .i64 (at_ h i))).1
  rw [← ints_sw] at h1
  have h2 : Ch w ((w.setCell ⟨g, i, none⟩ (.int .i64 (at_ h j))).setCell ⟨g, j, none⟩ (.int .i64 (at_ h i))) (fun b => b = g) := ((Ch.refl w (fun b => b = g)).setCell (p := ⟨g, i, none⟩) rfl _).setCell (p := ⟨g, j, none⟩) rfl _
  refine (swap_any g i j cap h base w ho hi hj hn).mono ?_
  intro e w' hl
  exact ⟨hl.1, hl.2.own h1, hl.2.ch h2⟩
end Go.Proofs.Ytapaoccpbcjgeaa

/- cnf: a heap of places: Len, Push, Pop, and how they are found behind an interface. -/
namespace Go.Proofs.Ytapaoccpbcjgeaa
open Go.RowKit Go.BigFrame
open Cnf (at_ sw)

/-- A heap's row h, kept in field 7 of the struct in block g. -/
structure Rdy (w : World) (base g : Nat) (cs : Array Value) (yv : Value) (h : List Int) : Prop where
  blk : w.heap[g]? = some (.cells cs 61 (0, 0))
  at7 : cs[7]? = some yv
  own : w.ownsRow base 3 1 yv h.length (ints h)
  ne : yv.ownBlock ≠ some g
def Two (g : Nat) (yv : Value) : Nat → Prop := fun b => b = g ∨ yv.ownBlock = some b
theorem Rdy.cell {w : World} {base g : Nat} {cs : Array Value} {yv : Value} {h : List Int} (H : Rdy w base g cs yv h) : w.cell? ⟨g, 7, none⟩ = some yv ∧ w.frozen? ⟨g, 7, none⟩ = false :=
  ⟨(blk_cell H.blk 7).trans H.at7, blk_free H.blk 7⟩
theorem Rdy.size {w : World} {base g : Nat} {cs : Array Value} {yv : Value} {h : List Int} (H : Rdy w base g cs yv h) : 7 < cs.size := by
  have := H.at7
  by_cases c : 7 < cs.size
  · exact c
  · rw [Array.getElem?_eq_none (by omega)] at this; cases this
theorem rdy_set {w : World} {base g : Nat} {cs : Array Value} (hg : w.heap[g]? = some (.cells cs 61 (0, 0))) (h7 : 7 < cs.size) {v' : Value} {h' : List Int} (ho : w.ownsRow base 3 1 v' h'.length (ints h')) (hn : v'.ownBlock ≠ some g) : Rdy (w.setCell ⟨g, 7, none⟩ v') base g (cs.setIfInBounds 7 v') v' h' :=
  ⟨blk_set hg 7 v', by simp [h7], ownsRow_setCell_other ho (a := ⟨g, 7, none⟩) hn v', hn⟩
theorem len_any (A : Option Addr) (n cap : Nat) (w : World) : Calls Try.prog 100 #[.slice A n cap] w fun e w' => e = .returned (.int .i64 (n : Int)) ∧ w' = w := by
  go_enter Try.func100, Try.ntmps100
  go_wp2
  go_ret
  exact ⟨rfl, rfl⟩
def PushPost (base g : Nat) (cs : Array Value) (yv : Value) (h : List Int) (w : World) (e : Ending) (w' : World) : Prop :=
  e = .returned (.tuple #[]) ∧ ∃ v', Rdy w' base g (cs.setIfInBounds 7 v') v' h ∧ Ch w w' (Two g yv) ∧ Moved w yv v'
set_option maxRecDepth 100000 in
set_option maxHeartbeats 1000000 in
theorem push_any (x : Int) (base g : Nat) (cs : Array Value) (yv : Value) (h : List Int) (w : World) (H : Rdy w base g cs yv h) (hbase : base ≤ w.heap.size) (hn : h.length ≤ 8000000) :
    Calls Try.prog 104 #[.pointer (some ⟨g, 7, none⟩), .iface 3 (.int .i64 x)] w (PushPost base g cs yv (h ++ [x]) w) := by
  obtain ⟨i0, hi, hz0, hz1, hz2⟩ := info_parts infoInt
  obtain ⟨hcell, hfr⟩ := H.cell
  have HH := Lib.hid H
  have hgl := block_lt H.blk
  have HP := Lib.hid (fun (e : Ending) (w' : World) (he : e = .returned (.tuple #[])) (v' : Value) (h1 : Rdy w' base g (cs.setIfInBounds 7 v') v' (h ++ [x])) (h2 : Ch w w' (Two g yv)) (h3 : Moved w yv v') => show PushPost base g cs yv (h ++ [x]) w e w' from ⟨he, v', h1, h2, h3⟩)
  generalize PushPost base g cs yv (h ++ [x]) w = post at *
  have hta : ∀ w, (Instr.typeAssert (.iface 3 (.int .i64 x)) 20 3 false).run Try.prog w = .ok (.int .i64 x) w := fun _ => by kernel_rfl
  have hgz : ((w.alloc (.cells #[.int .i64 x] 3)).drew).heap[g]? = some (.cells cs 61 (0, 0)) := (old_block w _ _ hgl).trans H.blk
  have HOZ := Lib.hid ((H.own.alloc (.cells #[.int .i64 x] 3)).drew)
  have hnz : ((w.alloc (.cells #[.int .i64 x] 3)).drew).heap[w.heap.size]? = some (.cells #[.int .i64 x] 3) := heap_alloc_new w _
  have HNZ := Lib.hid (World.news_of_block hnz)
  have hcA := (blk_cell hgz 7).trans H.at7
  have hfA := blk_free hgz 7
  have HGZ := Lib.hid hgz
  have HCA := Lib.hid hcA
  have HFA := Lib.hid hfA
  have HNE := Lib.hid H.ne
  clear H hgz hnz
  go_enter Try.func104, Try.ntmps104
  go_wp2_with fail
  go_region_law ((refine step_append_lies _ (by rfl) _ _ _ (by rfl) base 3 i0 _ 1 8 Try.underlying59 hi hz0 hz1 hz2 rfl (by omega) yv h.length _ (by rfl) HOZ.out ⟨w.heap.size, 0, none⟩ 1 1 [.int .i64 x] (by rfl) (by rfl) HNZ.out (by intro u hu; simp at hu; subst hu; rfl) (by omega) (by unfold maxLen; omega) (by omega) (by simp; omega) (w.heap.size + 1) (by simp) ?_; intro gg cap w1 hown1 hgrow hat hlt1; have hc1 := (hgrow.cell_far ⟨g, 7, none⟩ (by simp; omega) (fun e => HNE.out e.symm)).trans HCA.out; have hf1 := (hgrow.frozen_far ⟨g, 7, none⟩ (by simp; omega) (fun e => HNE.out e.symm)).trans HFA.out))
  all_goals
    have hmv1 : Moved ((w.alloc (.cells #[.int .i64 x] 3)).drew) yv (.slice (some ⟨gg, 0, none⟩) (h.length + 1) cap) := by
      rcases hat with h | h
      · exact .inl h.symm
      · exact .inr ⟨gg, rfl, by simp; omega⟩
    have hne1 := hmv1.ne (by simp; omega) HNE.out
    have hmv2 : Moved w yv (.slice (some ⟨gg, 0, none⟩) (h.length + 1) cap) := (Moved.refl w yv).trans hmv1 (by simp)
    have hg1 := kept HGZ.out hgrow (fun e => HNE.out e.symm)
    have hown2 : w1.ownsRow base 3 1 (.slice (some ⟨gg, 0, none⟩) (h.length + 1) cap) (h ++ [x]).length (ints (h ++ [x])) := by
      rw [ints_snoc, List.length_append]; exact hown1
    have hch : Ch w w1 (Two g yv) := (((Ch.refl w _).alloc (.cells #[.int .i64 x] 3)).drew).grown hgrow fun k hk e => .inr e
    have HR := Lib.hid (rdy_set hg1 HH.out.size hown2 hne1)
    have HC := Lib.hid (hch.setCell (p := ⟨g, 7, none⟩) (.inl rfl) (.slice (some ⟨gg, 0, none⟩) (h.length + 1) cap))
    have HM := Lib.hid hmv2
    clear hmv1 hne1 hmv2 hg1 hown2 hch hgrow hown1 HGZ HOZ HNZ HCA HFA hc1 hf1 hcA hfA hat
    go_wp2_with fail
    go_end0
    exact HP.out _ _ rfl _ HR.out HC.out HM.out
/-- Pop: the last one. -/
def PopPost (base g : Nat) (cs : Array Value) (yv : Value) (h : List Int) (x : Int) (w : World) (e : Ending) (w' : World) : Prop :=
  e = .returned (.iface 3 (.int .i64 x)) ∧ ∃ v', Rdy w' base g (cs.setIfInBounds 7 v') v' h ∧ Ch w w' (Two g yv) ∧ v'.ownBlock = yv.ownBlock
set_option maxRecDepth 100000 in
set_option maxHeartbeats 1000000 in
theorem pop_any (base g : Nat) (cs : Array Value) (yv : Value) (h : List Int) (x : Int) (w : World) (H : Rdy w base g cs yv (h ++ [x])) (hn : h.length ≤ 8000000) :
    Calls Try.prog 103 #[.pointer (some ⟨g, 7, none⟩)] w (PopPost base g cs yv h x w) := by
  obtain ⟨hcell, hfr⟩ := H.cell
  have HS := H.size
  have HG := Lib.hid H.blk
  obtain ⟨y, cap, rfl, hy, hyl, hnc, hcm⟩ := own_at H.own (by simp)
  have hlen : (h ++ [x]).length = h.length + 1 := by simp
  rw [hlen] at hnc
  have hcx : w.cell? ⟨y, h.length, none⟩ = some (.int .i64 x) := by
    rw [World.ownsRow.cellAt H.own h.length (by omega), ints_get _ _ (by omega)]
    simp [List.getD]
  have ho2 := own_cut H.own (by simp) (show h.length ≤ (h ++ [x]).length by omega)
  rw [show (ints (h ++ [x])).take h.length = ints h by rw [ints_snoc, List.take_left' (ints_len h)]] at ho2
  have HO := Lib.hid ho2
  have HNE := Lib.hid H.ne
  rw [hlen] at hcell
  have HP := Lib.hid (fun (e : Ending) (w' : World) (he : e = .returned (.iface 3 (.int .i64 x))) (v' : Value) (h1 : Rdy w' base g (cs.setIfInBounds 7 v') v' h) (h2 : Ch w w' (Two g (.slice (some ⟨y, 0, none⟩) (h ++ [x]).length cap))) (h3 : v'.ownBlock = (Value.slice (some ⟨y, 0, none⟩) (h ++ [x]).length cap).ownBlock) => show PopPost base g cs (.slice (some ⟨y, 0, none⟩) (h ++ [x]).length cap) h x w e w' from ⟨he, v', h1, h2, h3⟩)
  generalize PopPost base g cs (.slice (some ⟨y, 0, none⟩) (h ++ [x]).length cap) h x w = post at *
  have hl0 : IntKind.i64.wrap (((h.length + 1 : Nat) : Int) - 1) = (h.length : Int) := by rw [show (((h.length + 1 : Nat) : Int) - 1) = (h.length : Int) by omega]; exact IntWalk.i64_in _ (by omega)
  have HR := Lib.hid (rdy_set HG.out HS ho2 (by exact HNE.out))
  have HC := Lib.hid ((Ch.refl w (Two g (.slice (some ⟨y, 0, none⟩) (h ++ [x]).length cap))).setCell (p := ⟨g, 7, none⟩) (.inl rfl) (.slice (some ⟨y, 0, none⟩) h.length cap))
  clear H ho2
  unfold maxLen at hcm
  go_enter Try.func103, Try.ntmps103
  go_wp2
  exact HP.out _ _ rfl _ HR.out HC.out rfl
end Go.Proofs.Ytapaoccpbcjgeaa

/- cnf: container/heap over places. -/
namespace Go.Proofs.Ytapaoccpbcjgeaa
open Go.RowKit Go.BigFrame
open Cnf (at_ sw UpOk DownOk Heaped)

/-- The heap behind its interface. -/
def hp (g : Nat) : Value := .iface 71 (.pointer (some ⟨g, 7, none⟩))

theorem m_push (a : Addr) (w : World) : (method 226 71 (.pointer (some a)) "Push").run Try.prog w = .ok (104, .pointer (some a)) w := by kernel_rfl
theorem m_pop (a : Addr) (w : World) : (method 226 71 (.pointer (some a)) "Pop").run Try.prog w = .ok (103, .pointer (some a)) w := by kernel_rfl
theorem m_len0 (a : Addr) (w : World) : (method 226 71 (.pointer (some a)) "Len").run Try.prog w = (do let v ← load a; pure (100, v) : Sem (FuncId × Value)).run Try.prog w := by kernel_rfl
theorem m_len (a : Addr) (v : Value) (w : World) (h : w.cell? a = some v) : (method 226 71 (.pointer (some a)) "Len").run Try.prog w = .ok (100, v) w := by
  rw [m_len0]; simp [h]
theorem m_less0 (a : Addr) (w : World) : (method 226 71 (.pointer (some a)) "Less").run Try.prog w = (do let v ← load a; pure (101, v) : Sem (FuncId × Value)).run Try.prog w := by kernel_rfl
theorem m_less (a : Addr) (v : Value) (w : World) (h : w.cell? a = some v) : (method 226 71 (.pointer (some a)) "Less").run Try.prog w = .ok (101, v) w := by
  rw [m_less0]; simp [h]
theorem m_swap0 (a : Addr) (w : World) : (method 226 71 (.pointer (some a)) "Swap").run Try.prog w = (do let v ← load a; pure (102, v) : Sem (FuncId × Value)).run Try.prog w := by kernel_rfl
theorem m_swap (a : Addr) (v : Value) (w : World) (h : w.cell? a = some v) : (method 226 71 (.pointer (some a)) "Swap").run Try.prog w = .ok (102, v) w := by
  rw [m_swap0]; simp [h]
end Go.Proofs.Ytapaoccpbcjgeaa

/- cnf: container/heap over places: up and down. -/
namespace Go.Proofs.Ytapaoccpbcjgeaa
open Go.RowKit Go.BigFrame
open Cnf (at_ sw UpOk DownOk Heaped)

def UpPost (base g : Nat) (cs : Array Value) (yv : Value) (h : List Int) (w : World) (w' : World) : Prop :=
  ∃ h', Rdy w' base g cs yv h' ∧ Ch w w' (fun b => yv.ownBlock = some b) ∧ Heaped h' h'.length ∧ (∀ x, x ∈ h' ↔ x ∈ h) ∧ h'.length = h.length
theorem sw_comm (h : List Int) (i j : Nat) (hne : i ≠ j) : sw h i j = sw h j i := by
  unfold sw
  rw [List.set_comm _ _ hne]
theorem less_n (g i j n cap : Nat) (h : List Int) (base : Nat) (w : World) (hl : h.length = n) (ho : w.ownsRow base 3 1 (.slice (some ⟨g, 0, none⟩) n cap) h.length (ints h)) (hi : i < n) (hj : j < n) (hn : n ≤ 8000000) :
    Calls Try.prog 101 #[.slice (some ⟨g, 0, none⟩) n cap, .int .i64 (i : Int), .int .i64 (j : Int)] w fun e w' => e = .returned (.bool (decide (at_ h i < at_ h j))) ∧ ∃ nq, w' = w.drewN nq := by
  subst hl
  exact less_any g i j cap h base w ho hi hj hn
theorem swap_n (g i j n cap : Nat) (h : List Int) (base : Nat) (w : World) (hl : h.length = n) (ho : w.ownsRow base 3 1 (.slice (some ⟨g, 0, none⟩) n cap) h.length (ints h)) (hi : i < n) (hj : j < n) (hn : n ≤ 8000000) :
    Calls Try.prog 102 #[.slice (some ⟨g, 0, none⟩) n cap, .int .i64 (i : Int), .int .i64 (j : Int)] w fun e w' => e = .returned (.tuple #[]) ∧ w'.ownsRow base 3 1 (.slice (some ⟨g, 0, none⟩) n cap) h.length (ints (sw h i j)) ∧ Ch w w' (fun b => b = g) := by
  subst hl
  exact swap_row g i j cap h base w ho hi hj hn
theorem Rdy.drewN {w : World} {base g : Nat} {cs : Array Value} {yv : Value} {h : List Int} (H : Rdy w base g cs yv h) (q : Nat) : Rdy (w.drewN q) base g cs yv h :=
  ⟨by rw [heap_drewN]; exact H.blk, H.at7, own_drewN H.own q, H.ne⟩
theorem Rdy.swap {w w' : World} {base g : Nat} {cs : Array Value} {y n cap : Nat} {h h' : List Int} (H : Rdy w base g cs (.slice (some ⟨y, 0, none⟩) n cap) h) (hc : Ch w w' (fun b => b = y)) (ho : w'.ownsRow base 3 1 (.slice (some ⟨y, 0, none⟩) n cap) h'.length (ints h')) : Rdy w' base g cs (.slice (some ⟨y, 0, none⟩) n cap) h' :=
  ⟨hc.heap H.blk fun e => H.ne (by rw [e]; rfl), H.at7, ho, H.ne⟩
set_option maxRecDepth 100000 in
set_option maxHeartbeats 1000000 in
theorem up_n (base g j y n cap : Nat) (cs : Array Value) (h : List Int) (w : World) (hl : h.length = n) (H : Rdy w base g cs (.slice (some ⟨y, 0, none⟩) n cap) h) (hj : j < n) (hu : UpOk h j) (hn : n ≤ 8000000) :
    Calls Try.prog 76 #[hp g, .int .i64 (j : Int)] w fun e w' => e = .returned (.tuple #[]) ∧ UpPost base g cs (.slice (some ⟨y, 0, none⟩) n cap) h w w' := by
  have HP := Lib.hid (fun (w' : World) (h' : List Int) (h1 : Rdy w' base g cs (.slice (some ⟨y, 0, none⟩) n cap) h') (h2 : Ch w w' (fun b => b = y)) (h3 : Heaped h' h'.length) (h4 : ∀ x, x ∈ h' ↔ x ∈ h) (h5 : h'.length = n) => show UpPost base g cs (.slice (some ⟨y, 0, none⟩) n cap) h w w' from ⟨h', h1, h2.weak (fun k _ e => by rw [e]; rfl), h3, h4, h5.trans hl.symm⟩)
  generalize UpPost base g cs (.slice (some ⟨y, 0, none⟩) n cap) h w = post at *
  unfold hp
  have HL0 := Lib.hid hl
  have HH := Lib.hid H
  have HU := Lib.hid hu
  clear H hu hl
  go_enter Try.func76, Try.ntmps76
  go_wp2
  go_loopw [1, 4] (fun jv _ wr => ∃ (k : Nat) (l : List Int), k < n ∧ jv = .int .i64 k ∧ Hid (l.length = n) ∧ Hid (Rdy wr base g cs (.slice (some ⟨y, 0, none⟩) n cap) l) ∧ Hid (Ch w wr (fun b => b = y)) ∧ Hid (UpOk l k) ∧ Hid (∀ x, x ∈ l ↔ x ∈ h)) (fun jv _ _ => (intOf jv).toNat)
  case atStart => exact ⟨j, h, hj, rfl, HL0, HH, Lib.hid (Ch.refl _ _), HU, Lib.hid fun x => Iff.rfl⟩
  case round =>
    clear HH HU
    obtain ⟨k, l, hk, rfl, HL, HR, HC, HU, HM⟩ := hrel
    have hcell := HR.out.cell.1
    by_cases h0 : k = 0
    · subst h0
      have HD := Lib.hid (HU.out.done (.inl rfl))
      go_wp2
      go_end0
      exact ⟨rfl, HP.out _ l HR.out HC.out HD.out HM.out HL.out⟩
    · obtain ⟨p, hp⟩ : ∃ p, p = (k - 1) / 2 := ⟨_, rfl⟩
      have hp1 : ((k : Int) - 1) / 2 = (p : Int) := by omega
      have hp2 : p < k := by omega
      have hp3 : ¬ (p : Int) = (k : Int) := by omega
      have hml := m_less ⟨g, 7, none⟩ _ wr hcell
      have HL2 := Lib.hid (less_n y k p n cap l base wr HL.out HR.out.own hk (by omega) hn)
      cases hlt : decide (at_ l k < at_ l p)
      · rw [hlt] at HL2
        have HD := Lib.hid (HU.out.done (.inr (by rw [← hp]; have := of_decide_eq_false hlt; omega)))
        clear hlt hp
        go_wp2_with fail
        refine HL2.out.mono ?_
        rintro e w' ⟨rfl, nq, hw⟩
        obtain rfl := hw.symm
        go_wp2
        go_end0
        exact ⟨rfl, HP.out _ l (HR.out.drewN nq) (HC.out.drewN nq) HD.out HM.out HL.out⟩
      · rw [hlt] at HL2
        have HU' : Hid (UpOk (sw l k p) p) := Lib.hid (by
          rw [hp]
          exact HU.out.step (by omega) (by have := HL.out; omega) (by rw [← hp]; exact of_decide_eq_true hlt))
        clear hlt hp
        go_wp2_with fail
        refine HL2.out.mono ?_
        rintro e w1 ⟨rfl, nq, hw⟩
        have HR1 := Lib.hid (HR.out.drewN nq)
        have HC1 := Lib.hid (HC.out.drewN nq)
        rw [← hw] at HR1 HC1
        have HSW := Lib.hid (swap_n y p k n cap l base w1 HL.out HR1.out.own (by omega) hk hn)
        have hms := m_swap ⟨g, 7, none⟩ _ w1 HR1.out.cell.1
        clear hw hml hcell
        go_wp2_with fail
        refine HSW.out.mono ?_
        rintro e w2 ⟨rfl, ho2, hc2⟩
        have hsl : (sw l p k).length = n := (Cnf.sw_len l p k).trans HL.out
        rw [show l.length = (sw l p k).length from (Cnf.sw_len l p k).symm] at ho2
        have HR2 := Lib.hid (HR1.out.swap hc2 ho2)
        have HC2 := Lib.hid (HC1.out.trans hc2 fun _ _ h => h)
        have HSL := Lib.hid hsl
        have HM2 : Hid (∀ x, x ∈ sw l p k ↔ x ∈ h) := Lib.hid fun x => (Cnf.sw_mem l p k (by have := HL.out; omega) (by have := HL.out; omega) x).trans (HM.out x)
        have HU2 : Hid (UpOk (sw l p k) p) := Lib.hid (by rw [sw_comm l p k (by omega)]; exact HU'.out)
        clear ho2 hc2 hsl hms
        go_wp2
        go_roundw
        case rel => exact ⟨p, sw l p k, by omega, rfl, HSL, HR2, HC2, HU2, HM2⟩
        case measure => simp [intOf]; omega
end Go.Proofs.Ytapaoccpbcjgeaa

/- cnf: container/heap over places: down. -/
namespace Go.Proofs.Ytapaoccpbcjgeaa
open Go.RowKit Go.BigFrame
open Cnf (at_ sw UpOk DownOk Heaped)

def DownPost (base g m : Nat) (cs : Array Value) (yv : Value) (h : List Int) (w : World) (e : Ending) (w' : World) : Prop :=
  (∃ b, e = .returned (.bool b)) ∧ ∃ h', Rdy w' base g cs yv h' ∧ Ch w w' (fun b => yv.ownBlock = some b) ∧ Heaped h' m ∧ (∀ x, x ∈ h' ↔ x ∈ h) ∧ h'.length = h.length ∧ at_ h' m = at_ h m
set_option maxRecDepth 100000 in
set_option maxHeartbeats 4000000 in
theorem down_n (base g m y n cap : Nat) (cs : Array Value) (h : List Int) (w : World) (hl : h.length = n) (H : Rdy w base g cs (.slice (some ⟨y, 0, none⟩) n cap) h) (hm : m < n) (hu : DownOk h 0 m) (hn : n ≤ 8000000) :
    Calls Try.prog 61 #[hp g, .int .i64 0, .int .i64 (m : Int)] w (DownPost base g m cs (.slice (some ⟨y, 0, none⟩) n cap) h w) := by
  have HP := Lib.hid (fun (e : Ending) (w' : World) (he : ∃ b, e = .returned (.bool b)) (h' : List Int) (h1 : Rdy w' base g cs (.slice (some ⟨y, 0, none⟩) n cap) h') (h2 : Ch w w' (fun b => b = y)) (h3 : Heaped h' m) (h4 : ∀ x, x ∈ h' ↔ x ∈ h) (h5 : h'.length = n) (h6 : at_ h' m = at_ h m) => show DownPost base g m cs (.slice (some ⟨y, 0, none⟩) n cap) h w e w' from ⟨he, h', h1, h2.weak (fun k _ e => by rw [e]; rfl), h3, h4, h5.trans hl.symm, h6⟩)
  generalize DownPost base g m cs (.slice (some ⟨y, 0, none⟩) n cap) h w = post at *
  unfold hp
  have HL0 := Lib.hid hl
  have HH := Lib.hid H
  have HU := Lib.hid hu
  clear H hu hl
  go_enter Try.func61, Try.ntmps61
  go_wp2
  go_loopw [7, 8, 9, 10] (fun iv _ _ _ wr => ∃ (i : Nat) (l : List Int), i ≤ m ∧ iv = .int .i64 i ∧ Hid (l.length = n) ∧ Hid (Rdy wr base g cs (.slice (some ⟨y, 0, none⟩) n cap) l) ∧ Hid (Ch w wr (fun b => b = y)) ∧ Hid (DownOk l i m) ∧ Hid (∀ x, x ∈ l ↔ x ∈ h) ∧ Hid (at_ l m = at_ h m)) (fun iv _ _ _ _ => m - (intOf iv).toNat)
  case atStart => exact ⟨0, h, by omega, rfl, HL0, HH, Lib.hid (Ch.refl _ _), HU, Lib.hid fun x => Iff.rfl, Lib.hid rfl⟩
  case round =>
    clear HH HU
    obtain ⟨i, l, hi, rfl, HL, HR, HC, HU, HM, HA⟩ := hrel
    have hcell := HR.out.cell.1
    obtain ⟨q, hq⟩ : ∃ q, q = 2 * i + 1 := ⟨_, rfl⟩
    have hq1 : 2 * (i : Int) + 1 = (q : Int) := by omega
    have hq0 : (0 : Int) ≤ (q : Int) := by omega
    by_cases h1 : q < m
    · have h1' : (q : Int) < (m : Int) := by omega
      have hml := m_less ⟨g, 7, none⟩ _ wr hcell
      have HLESS := Lib.hid (fun (a b : Nat) (wx : World) (ho : wx.ownsRow base 3 1 (.slice (some ⟨y, 0, none⟩) n cap) l.length (ints l)) (ha : a < n) (hb : b < n) => less_n y a b n cap l base wx HL.out ho ha hb hn)
      have him : i < m := by omega
      have hiq : i < q := by omega
      have HQ := Lib.hid hq
      clear hq
      by_cases h2 : q + 1 < m
      · obtain ⟨r, hr⟩ : ∃ r, r = q + 1 := ⟨_, rfl⟩
        have hq2 : (q : Int) + 1 = (r : Int) := by omega
        have hr1 : (r : Int) < (m : Int) := by omega
        have hrm : r < m := by omega
        have HRQ := Lib.hid hr
        have HLS := Lib.hid (HLESS.out r q wr HR.out.own (by omega) (by omega))
        clear h2 hr
        cases hlt1 : decide (at_ l r < at_ l q)
        · rw [hlt1] at HLS
          have HMIN : Hid (∀ k, (k = 2 * i + 1 ∨ k = 2 * i + 2) → k < m → at_ l q ≤ at_ l k) := Lib.hid fun k hk _ => by
            have h9 := of_decide_eq_false hlt1
            have h8 := HQ.out; have h7 := HRQ.out
            rcases hk with rfl | rfl
            · rw [← h8]; omega
            · rw [show 2 * i + 2 = r by omega]; omega
          have HJ : Hid (q = 2 * i + 1 ∨ q = 2 * i + 2) := Lib.hid (.inl HQ.out)
          clear hlt1
          go_wp2_with fail
          refine HLS.out.mono ?_
          rintro e w1 ⟨rfl, nq, hw⟩
          have HR1 := Lib.hid (HR.out.drewN nq)
          have HC1 := Lib.hid (HC.out.drewN nq)
          rw [← hw] at HR1 HC1
          clear hw hml hcell HLS hq2
          have hcell := HR1.out.cell.1
          have hml2 := m_less ⟨g, 7, none⟩ _ w1 HR1.out.cell.1
          have HLT := Lib.hid (HLESS.out q i w1 HR1.out.own (by omega) (by omega))
          cases hlt : decide (at_ l q < at_ l i)
          · rw [hlt] at HLT
            have HD := Lib.hid (HU.out.done (fun k hk hkm => by have := HMIN.out k hk hkm; have := of_decide_eq_false hlt; omega))
            clear hlt
            go_wp2_with fail
            refine HLT.out.mono ?_
            rintro e w' ⟨rfl, nq2, hw⟩
            obtain rfl := hw.symm
            go_wp2
            exact HP.out _ _ ⟨_, rfl⟩ l (HR1.out.drewN nq2) (HC1.out.drewN nq2) HD.out HM.out HL.out HA.out
          · rw [hlt] at HLT
            have HU' := Lib.hid (HU.out.step (by have := HL.out; omega) HJ.out (by omega) HMIN.out (of_decide_eq_true hlt))
            clear hlt
            go_wp2_with fail
            refine HLT.out.mono ?_
            rintro e w3 ⟨rfl, nq2, hw⟩
            have HR3 := Lib.hid (HR1.out.drewN nq2)
            have HC3 := Lib.hid (HC1.out.drewN nq2)
            rw [← hw] at HR3 HC3
            have HSW := Lib.hid (swap_n y i q n cap l base w3 HL.out HR3.out.own (by omega) (by omega) hn)
            have hms := m_swap ⟨g, 7, none⟩ _ w3 HR3.out.cell.1
            clear hw hml2 hcell
            go_wp2_with fail
            refine HSW.out.mono ?_
            rintro e w4 ⟨rfl, ho2, hc2⟩
            have hsl : (sw l i q).length = n := (Cnf.sw_len l i q).trans HL.out
            rw [show l.length = (sw l i q).length from (Cnf.sw_len l i q).symm] at ho2
            have HR4 := Lib.hid (HR3.out.swap hc2 ho2)
            have HC4 := Lib.hid (HC3.out.trans hc2 fun _ _ h => h)
            have HSL := Lib.hid hsl
            have HM2 : Hid (∀ x, x ∈ sw l i q ↔ x ∈ h) := Lib.hid fun x => (Cnf.sw_mem l i q (by have := HL.out; omega) (by have := HL.out; omega) x).trans (HM.out x)
            have HA2 : Hid (at_ (sw l i q) m = at_ h m) := Lib.hid (by rw [Cnf.sw_at l i q m (by have := HL.out; omega) (by have := HL.out; omega), if_neg (by omega), if_neg (by omega)]; exact HA.out)
            clear ho2 hc2 hsl hms
            go_wp2
            go_roundw
            case rel => exact ⟨q, sw l i q, by omega, by first | rfl | omega | (congr 1), HSL, HR4, HC4, HU', HM2, HA2⟩
            case measure => simp [intOf]; omega
        · rw [hlt1] at HLS
          have HMIN : Hid (∀ k, (k = 2 * i + 1 ∨ k = 2 * i + 2) → k < m → at_ l r ≤ at_ l k) := Lib.hid fun k hk _ => by
            have h9 := of_decide_eq_true hlt1
            have h8 := HQ.out; have h7 := HRQ.out
            rcases hk with rfl | rfl
            · rw [← h8]; omega
            · rw [show 2 * i + 2 = r by omega]; omega
          have HJ : Hid (r = 2 * i + 1 ∨ r = 2 * i + 2) := Lib.hid (.inr (by have := HQ.out; have := HRQ.out; omega))
          have him2 : i < r := by have := HQ.out; have := HRQ.out; omega
          clear hlt1
          go_wp2_with fail
          refine HLS.out.mono ?_
          rintro e w1 ⟨rfl, nq, hw⟩
          have HR1 := Lib.hid (HR.out.drewN nq)
          have HC1 := Lib.hid (HC.out.drewN nq)
          rw [← hw] at HR1 HC1
          clear hw hml hcell HLS hq2
          have hcell := HR1.out.cell.1
          have hml2 := m_less ⟨g, 7, none⟩ _ w1 HR1.out.cell.1
          have HLT := Lib.hid (HLESS.out r i w1 HR1.out.own (by omega) (by omega))
          cases hlt : decide (at_ l r < at_ l i)
          · rw [hlt] at HLT
            have HD := Lib.hid (HU.out.done (fun k hk hkm => by have := HMIN.out k hk hkm; have := of_decide_eq_false hlt; omega))
            clear hlt
            go_wp2_with fail
            refine HLT.out.mono ?_
            rintro e w' ⟨rfl, nq2, hw⟩
            obtain rfl := hw.symm
            go_wp2
            exact HP.out _ _ ⟨_, rfl⟩ l (HR1.out.drewN nq2) (HC1.out.drewN nq2) HD.out HM.out HL.out HA.out
          · rw [hlt] at HLT
            have HU' := Lib.hid (HU.out.step (by have := HL.out; omega) HJ.out (by omega) HMIN.out (of_decide_eq_true hlt))
            clear hlt
            go_wp2_with fail
            refine HLT.out.mono ?_
            rintro e w3 ⟨rfl, nq2, hw⟩
            have HR3 := Lib.hid (HR1.out.drewN nq2)
            have HC3 := Lib.hid (HC1.out.drewN nq2)
            rw [← hw] at HR3 HC3
            have HSW := Lib.hid (swap_n y i r n cap l base w3 HL.out HR3.out.own (by omega) (by omega) hn)
            have hms := m_swap ⟨g, 7, none⟩ _ w3 HR3.out.cell.1
            clear hw hml2 hcell
            go_wp2_with fail
            refine HSW.out.mono ?_
            rintro e w4 ⟨rfl, ho2, hc2⟩
            have hsl : (sw l i r).length = n := (Cnf.sw_len l i r).trans HL.out
            rw [show l.length = (sw l i r).length from (Cnf.sw_len l i r).symm] at ho2
            have HR4 := Lib.hid (HR3.out.swap hc2 ho2)
            have HC4 := Lib.hid (HC3.out.trans hc2 fun _ _ h => h)
            have HSL := Lib.hid hsl
            have HM2 : Hid (∀ x, x ∈ sw l i r ↔ x ∈ h) := Lib.hid fun x => (Cnf.sw_mem l i r (by have := HL.out; omega) (by have := HL.out; omega) x).trans (HM.out x)
            have HA2 : Hid (at_ (sw l i r) m = at_ h m) := Lib.hid (by rw [Cnf.sw_at l i r m (by have := HL.out; omega) (by have := HL.out; omega), if_neg (by omega), if_neg (by omega)]; exact HA.out)
            clear ho2 hc2 hsl hms
            go_wp2
            go_roundw
            case rel => exact ⟨r, sw l i r, by omega, by first | rfl | omega | (congr 1), HSL, HR4, HC4, HU', HM2, HA2⟩
            case measure => simp [intOf]; omega
      · have h2' : ¬ (q : Int) + 1 < (m : Int) := by omega
        have HMIN : Hid (∀ k, (k = 2 * i + 1 ∨ k = 2 * i + 2) → k < m → at_ l q ≤ at_ l k) := Lib.hid fun k hk hkm => by
          have h8 := HQ.out
          rcases hk with rfl | rfl
          · rw [← h8]; omega
          · omega
        have HJ : Hid (q = 2 * i + 1 ∨ q = 2 * i + 2) := Lib.hid (.inl HQ.out)
        clear h2
        have hml2 := m_less ⟨g, 7, none⟩ _ wr HR.out.cell.1
        have HLT := Lib.hid (HLESS.out q i wr HR.out.own (by omega) (by omega))
        cases hlt : decide (at_ l q < at_ l i)
        · rw [hlt] at HLT
          have HD := Lib.hid (HU.out.done (fun k hk hkm => by have := HMIN.out k hk hkm; have := of_decide_eq_false hlt; omega))
          clear hlt
          go_wp2_with fail
          refine HLT.out.mono ?_
          rintro e w' ⟨rfl, nq2, hw⟩
          obtain rfl := hw.symm
          go_wp2
          exact HP.out _ _ ⟨_, rfl⟩ l (HR.out.drewN nq2) (HC.out.drewN nq2) HD.out HM.out HL.out HA.out
        · rw [hlt] at HLT
          have HU' := Lib.hid (HU.out.step (by have := HL.out; omega) HJ.out (by omega) HMIN.out (of_decide_eq_true hlt))
          clear hlt
          go_wp2_with fail
          refine HLT.out.mono ?_
          rintro e w3 ⟨rfl, nq2, hw⟩
          have HR3 := Lib.hid (HR.out.drewN nq2)
          have HC3 := Lib.hid (HC.out.drewN nq2)
          rw [← hw] at HR3 HC3
          have HSW := Lib.hid (swap_n y i q n cap l base w3 HL.out HR3.out.own (by omega) (by omega) hn)
          have hms := m_swap ⟨g, 7, none⟩ _ w3 HR3.out.cell.1
          clear hw hml2 hcell
          go_wp2_with fail
          refine HSW.out.mono ?_
          rintro e w4 ⟨rfl, ho2, hc2⟩
          have hsl : (sw l i q).length = n := (Cnf.sw_len l i q).trans HL.out
          rw [show l.length = (sw l i q).length from (Cnf.sw_len l i q).symm] at ho2
          have HR4 := Lib.hid (HR3.out.swap hc2 ho2)
          have HC4 := Lib.hid (HC3.out.trans hc2 fun _ _ h => h)
          have HSL := Lib.hid hsl
          have HM2 : Hid (∀ x, x ∈ sw l i q ↔ x ∈ h) := Lib.hid fun x => (Cnf.sw_mem l i q (by have := HL.out; omega) (by have := HL.out; omega) x).trans (HM.out x)
          have HA2 : Hid (at_ (sw l i q) m = at_ h m) := Lib.hid (by rw [Cnf.sw_at l i q m (by have := HL.out; omega) (by have := HL.out; omega), if_neg (by omega), if_neg (by omega)]; exact HA.out)
          clear ho2 hc2 hsl hms
          go_wp2
          go_roundw
          case rel => exact ⟨q, sw l i q, by omega, by first | rfl | omega | (congr 1), HSL, HR4, HC4, HU', HM2, HA2⟩
          case measure => simp [intOf]; omega
    · have h1' : ¬ (q : Int) < (m : Int) := by omega
      have HD := Lib.hid (HU.out.done (by intro k hk hkm; omega))
      clear hq
      go_wp2
      exact HP.out _ _ ⟨_, rfl⟩ l HR.out HC.out HD.out HM.out HL.out HA.out
end Go.Proofs.Ytapaoccpbcjgeaa

/- cnf: container/heap over places: Push and Pop. -/
namespace Go.Proofs.Ytapaoccpbcjgeaa
open Go.RowKit Go.BigFrame
open Cnf (at_ sw UpOk DownOk Heaped)

structure Pushed (base g : Nat) (cs : Array Value) (yv : Value) (h : List Int) (x : Int) (w : World) (w' : World) (v' : Value) (h' : List Int) : Prop where
  rdy : Rdy w' base g (cs.setIfInBounds 7 v') v' h'
  ch : Ch w w' (Two g yv)
  moved : Moved w yv v'
  heap : Heaped h' h'.length
  mem : ∀ k, k ∈ h' ↔ k ∈ h ∨ k = x
  len : h'.length = h.length + 1
def HeapPush (base g : Nat) (cs : Array Value) (yv : Value) (h : List Int) (x : Int) (w : World) (e : Ending) (w' : World) : Prop :=
  e = .returned (.tuple #[]) ∧ ∃ v' h', Pushed base g cs yv h x w w' v' h'
set_option maxRecDepth 100000 in
set_option maxHeartbeats 1000000 in
theorem heapPush_any (x : Int) (base g : Nat) (cs : Array Value) (yv : Value) (h : List Int) (w : World) (H : Rdy w base g cs yv h) (hh : Heaped h h.length) (hbase : base ≤ w.heap.size) (hn : h.length ≤ 7000000) :
    Calls Try.prog 60 #[hp g, .iface 3 (.int .i64 x)] w (HeapPush base g cs yv h x w) := by
  have HP := Lib.hid (fun (e : Ending) (w' : World) (he : e = .returned (.tuple #[])) (v' : Value) (h' : List Int) (hp : Pushed base g cs yv h x w w' v' h') => show HeapPush base g cs yv h x w e w' from ⟨he, v', h', hp⟩)
  generalize HeapPush base g cs yv h x w = post at *
  have HPU := Lib.hid (push_any x base g cs yv h w H hbase (by omega))
  have hmp := m_push ⟨g, 7, none⟩ w
  unfold hp
  have HUO := Lib.hid (UpOk.start x hh)
  have hgl := block_lt H.blk
  clear H hh
  go_enter Try.func60, Try.ntmps60
  go_wp2_with fail
  refine HPU.out.mono ?_
  rintro e w1 ⟨rfl, v1, hr1, hc1, hm1⟩
  obtain ⟨y, cap, rfl, hy, hyl, hnc, hcm⟩ := own_at hr1.own (by simp)
  have hlen : (h ++ [x]).length = h.length + 1 := by simp
  rw [hlen] at hr1 hnc hm1
  have HC1 := Lib.hid hc1
  have HM1 := Lib.hid hm1
  have HR1 := Lib.hid hr1
  have HUP := Lib.hid (up_n base g h.length y (h.length + 1) cap _ (h ++ [x]) w1 hlen hr1 (by omega) HUO.out (by omega))
  have hml := m_len ⟨g, 7, none⟩ _ w1 hr1.cell.1
  have HLEN := Lib.hid (len_any (some ⟨y, 0, none⟩) (h.length + 1) cap w1)
  have hl0 : IntKind.i64.wrap (((h.length + 1 : Nat) : Int) - 1) = (h.length : Int) := by rw [show (((h.length + 1 : Nat) : Int) - 1) = (h.length : Int) by omega]; exact IntWalk.i64_in _ (by omega)
  have hl1 : ((h.length + 1 : Nat) : Int) - 1 = (h.length : Int) := by omega
  unfold hp at HUP
  clear hr1 hc1 hm1 hmp hlen HPU hcm
  go_wp2_with fail
  refine HLEN.out.mono ?_
  rintro e w' ⟨rfl, hw⟩
  obtain rfl := hw.symm
  go_wp2_with fail
  refine HUP.out.mono ?_
  rintro e w2 ⟨rfl, h', hr2, hc2, hh2, hmem, hle⟩
  have HX := Lib.hid (show Pushed base g cs yv h x w w2 _ h' from ⟨hr2, HC1.out.trans hc2 (fun k hk e => by
    rcases HM1.out with e' | ⟨g', e', hge⟩
    · exact .inr (e' ▸ e)
    · rw [e'] at e; cases e; omega), HM1.out, hh2, fun k => by rw [hmem, List.mem_append, List.mem_singleton], by rw [hle]; simp⟩)
  clear hr2 hc2 hh2 hmem hle hml
  go_wp2
  go_end0
  exact HP.out _ _ rfl _ _ HX.out
structure Popped (base g : Nat) (cs : Array Value) (yv : Value) (h : List Int) (x : Int) (w : World) (w' : World) (v' : Value) (h' : List Int) : Prop where
  rdy : Rdy w' base g (cs.setIfInBounds 7 v') v' h'
  ch : Ch w w' (Two g yv)
  moved : v'.ownBlock = yv.ownBlock
  heap : Heaped h' h'.length
  sub : ∀ k, k ∈ h' → k ∈ h
  cover : ∀ k, k ∈ h → k = x ∨ k ∈ h'
  mem : x ∈ h
  least : ∀ k, k ∈ h → x ≤ k
  len : h'.length + 1 = h.length
def HeapPop (base g : Nat) (cs : Array Value) (yv : Value) (h : List Int) (w : World) (e : Ending) (w' : World) : Prop :=
  ∃ x, e = .returned (.iface 3 (.int .i64 x)) ∧ ∃ v' h', Popped base g cs yv h x w w' v' h'
theorem take_last (h : List Int) (m : Nat) (hl : h.length = m + 1) : h = h.take m ++ [at_ h m] := by
  have h1 := List.take_succ_eq_append_getElem (l := h) (i := m) (by omega)
  rw [List.take_of_length_le (by omega)] at h1
  rw [show at_ h m = h[m] by simp [at_, List.getD, hl]]
  exact h1
set_option maxRecDepth 100000 in
set_option maxHeartbeats 1000000 in
theorem heapPop_any (base g : Nat) (cs : Array Value) (yv : Value) (h : List Int) (w : World) (H : Rdy w base g cs yv h) (hh : Heaped h h.length) (h0 : 0 < h.length) (hn : h.length ≤ 8000000) :
    Calls Try.prog 47 #[hp g] w (HeapPop base g cs yv h w) := by
  have HP := Lib.hid (fun (e : Ending) (w' : World) (x : Int) (he : e = .returned (.iface 3 (.int .i64 x))) (v' : Value) (h' : List Int) (hp : Popped base g cs yv h x w w' v' h') => show HeapPop base g cs yv h w e w' from ⟨x, he, v', h', hp⟩)
  generalize HeapPop base g cs yv h w = post at *
  obtain ⟨m, hm⟩ : ∃ m, h.length = m + 1 := ⟨h.length - 1, by omega⟩
  rw [hm] at hh hn
  have HM := Lib.hid hm
  obtain ⟨y, cap, rfl, hy, hyl, hnc, hcm⟩ := own_at H.own h0
  have hml := m_len ⟨g, 7, none⟩ _ w H.cell.1
  have hms := m_swap ⟨g, 7, none⟩ _ w H.cell.1
  rw [hm] at hml hms
  have HLEN := Lib.hid (len_any (some ⟨y, 0, none⟩) (m + 1) cap w)
  have HSW := Lib.hid (swap_n y 0 m (m + 1) cap h base w hm (by have := H.own; rw [hm] at this; rw [hm]; exact this) (by omega) (by omega) (by omega))
  have HDO := Lib.hid (DownOk.start hh hm)
  have HRT := Lib.hid hh.root
  have hl0 : IntKind.i64.wrap (((m + 1 : Nat) : Int) - 1) = (m : Int) := by rw [show (((m + 1 : Nat) : Int) - 1) = (m : Int) by omega]; exact IntWalk.i64_in _ (by omega)
  have hl1 : ((m + 1 : Nat) : Int) - 1 = (m : Int) := by omega
  have HR := Lib.hid H
  rw [hm] at HR HP
  unfold hp
  clear H hh hm h0 hcm
  go_enter Try.func47, Try.ntmps47
  go_wp2_with fail
  refine HLEN.out.mono ?_
  rintro e w' ⟨rfl, hw⟩
  obtain rfl := hw.symm
  go_wp2_with fail
  refine HSW.out.mono ?_
  rintro e w1 ⟨rfl, ho1, hc1⟩
  rw [show h.length = (sw h 0 m).length from (Cnf.sw_len h 0 m).symm] at ho1
  have HR1 := Lib.hid (HR.out.swap hc1 ho1)
  have HC1 := Lib.hid hc1
  have HDN := Lib.hid (down_n base g m y (m + 1) cap cs (sw h 0 m) w1 ((Cnf.sw_len h 0 m).trans HM.out) HR1.out (by omega) HDO.out (by omega))
  unfold hp at HDN
  clear ho1 hc1 hml hms
  go_wp2_with fail
  refine HDN.out.mono ?_
  rintro e w2 ⟨⟨b, rfl⟩, h2, hr2, hc2, hh2, hm2, hle2, ha2⟩
  have hl2 : h2.length = m + 1 := hle2.trans ((Cnf.sw_len h 0 m).trans HM.out)
  obtain ⟨rest, hrest⟩ : ∃ rest, rest = h2.take m := ⟨_, rfl⟩
  have hx : at_ h2 m = at_ h 0 := by rw [ha2, Cnf.sw_at h 0 m m (by have := HM.out; omega) (by have := HM.out; omega), if_pos rfl]
  have h2e : h2 = rest ++ [at_ h 0] := by
    have := take_last h2 m hl2
    rw [hx, ← hrest] at this; exact this
  have hrl : rest.length = m := by rw [hrest, List.length_take]; omega
  have hhr : Heaped rest rest.length := by rw [hrest]; exact hh2.take (by omega)
  rw [h2e] at hr2 hm2
  have hmp := m_pop ⟨g, 7, none⟩ w2
  have HPP := Lib.hid (pop_any base g cs _ rest (at_ h 0) w2 hr2 (by omega))
  have HM2 := Lib.hid (fun k => (hm2 k).trans (Cnf.sw_mem h 0 m (by have := HM.out; omega) (by have := HM.out; omega) k))
  have HC2 := Lib.hid hc2
  have HHR := Lib.hid hhr
  have HRL := Lib.hid hrl
  clear hr2 hm2 hc2 hhr hrl h2e hx hl2 hrest ha2 hle2 hh2
  go_wp2_with fail
  refine HPP.out.mono ?_
  rintro e w3 ⟨rfl, v3, hr3, hc3, hb3⟩
  have HX := Lib.hid (show Popped base g cs (.slice (some ⟨y, 0, none⟩) (m + 1) cap) h (at_ h 0) w w3 v3 rest from ⟨hr3, ((HC1.out.weak (M' := Two g (.slice (some ⟨y, 0, none⟩) (m + 1) cap)) (fun k _ e => .inr (by rw [e]; rfl))).trans HC2.out (fun k _ e => .inr e)).trans hc3 (fun k _ e => e), hb3, HHR.out,
    fun k hk => (HM2.out k).1 (List.mem_append_left _ hk),
    fun k hk => by
      rcases List.mem_append.1 ((HM2.out k).2 hk) with e | e
      · exact .inr e
      · exact .inl (List.mem_singleton.1 e),
    (Cnf.mem_at h _).2 ⟨0, by have := HM.out; omega, rfl⟩,
    fun k hk => by
      obtain ⟨j, hj, rfl⟩ := (Cnf.mem_at h k).1 hk
      exact HRT.out j (by have := HM.out; omega),
    by rw [HRL.out, HM.out]⟩)
  clear hr3 hc3 hb3 hmp
  go_wp2
  exact HP.out _ _ _ rfl _ _ HX.out
end Go.Proofs.Ytapaoccpbcjgeaa
