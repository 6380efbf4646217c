/- cnf: the order of Norm's sort. -/
import Derived.Test.YtapaoccpbcjgeaaCnmF
import Derived.Test.YtapaoccpbcjgeaaSortShelf
import Derived.Test.YtapaoccpbcjgeaaCnmP
import Derived.Test.YtapaoccpbcjgeaaShelf
import Derived.Test.YtapaoccpbcjgeaaCnmJ
import Derived.Shelf.SlSortCmp.NoneTotal
namespace Go.Proofs.Ytapaoccpbcjgeaa
open Go.RowKit Go.BigFrame
open Cnf (absI cmpN)

set_option maxRecDepth 100000 in
set_option maxHeartbeats 1000000 in
theorem cmp_any (x y : Int) (w : World) (hx1 : -100000 ≤ x) (hx2 : x ≤ 100000) (hy1 : -100000 ≤ y) (hy2 : y ≤ 100000) :
    Calls Try.prog 28 #[.int .i64 x, .int .i64 y] w fun e w' => e = .returned (.int .i64 (cmpN x y)) ∧ w' = w := by
  have hw1 : IntKind.i64.wrap (-x) = -x := IntWalk.i64_in _ (by omega)
  have hw2 : IntKind.i64.wrap (-y) = -y := IntWalk.i64_in _ (by omega)
  have hw3 : IntKind.i64.wrap (x - y) = x - y := IntWalk.i64_in _ (by omega)
  have hw4 : IntKind.i64.wrap (x - -y) = x - -y := IntWalk.i64_in _ (by omega)
  have hw5 : IntKind.i64.wrap (-x - y) = -x - y := IntWalk.i64_in _ (by omega)
  have hw6 : IntKind.i64.wrap (-x - -y) = -x - -y := IntWalk.i64_in _ (by omega)
  have hw7 : IntKind.i64.wrap (y - x) = y - x := IntWalk.i64_in _ (by omega)
  have HC := Lib.hid (show cmpN x y = if absI x - absI y ≠ 0 then absI x - absI y else y - x from rfl)
  have HX := Lib.hid (show absI x = if -x ≤ x then x else -x by unfold absI; split <;> omega)
  have HY := Lib.hid (show absI y = if -y ≤ y then y else -y by unfold absI; split <;> omega)
  generalize cmpN x y = r at *
  generalize absI x = X at *
  generalize absI y = Y at *
  by_cases h1 : -x ≤ x
  · have hX := Lib.hid (show X = x by rw [HX.out, if_pos h1])
    by_cases h2 : -y ≤ y
    · have hY := Lib.hid (show Y = y by rw [HY.out, if_pos h2])
      have HR := Lib.hid (show r = if x - y ≠ 0 then x - y else y - x by rw [HC.out, hX.out, hY.out])
      go_enter Try.func28, Try.ntmps28
      go_wp2
      all_goals
        go_ret
        refine ⟨ret_int ?_, rfl⟩
        rw [HR.out]
        rename_i hb
        simp only [bne_iff_ne, ne_eq, bne_eq_false_iff_eq] at hb
        split <;> omega
    · have hY := Lib.hid (show Y = -y by rw [HY.out, if_neg h2])
      have HR := Lib.hid (show r = if x - -y ≠ 0 then x - -y else y - x by rw [HC.out, hX.out, hY.out])
      go_enter Try.func28, Try.ntmps28
      go_wp2
      all_goals
        go_ret
        refine ⟨ret_int ?_, rfl⟩
        rw [HR.out]
        rename_i hb
        simp only [bne_iff_ne, ne_eq, bne_eq_false_iff_eq] at hb
        split <;> omega
  · have hX := Lib.hid (show X = -x by rw [HX.out, if_neg h1])
    by_cases h2 : -y ≤ y
    · have hY := Lib.hid (show Y = y by rw [HY.out, if_pos h2])
      have HR := Lib.hid (show r = if -x - y ≠ 0 then -x - y else y - x by rw [HC.out, hX.out, hY.out])
      go_enter Try.func28, Try.ntmps28
      go_wp2
      all_goals
        go_ret
        refine ⟨ret_int ?_, rfl⟩
        rw [HR.out]
        rename_i hb
        simp only [bne_iff_ne, ne_eq, bne_eq_false_iff_eq] at hb
        split <;> omega
    · have hY := Lib.hid (show Y = -y by rw [HY.out, if_neg h2])
      have HR := Lib.hid (show r = if -x - -y ≠ 0 then -x - -y else y - x by rw [HC.out, hX.out, hY.out])
      go_enter Try.func28, Try.ntmps28
      go_wp2
      all_goals
        go_ret
        refine ⟨ret_int ?_, rfl⟩
        rw [HR.out]
        rename_i hb
        simp only [bne_iff_ne, ne_eq, bne_eq_false_iff_eq] at hb
        split <;> omega
theorem lt_cmp (α : Type) (f : α → Int) (x y : α) : Go.Proofs.ltOf (fun x y : α => cmpN (f x) (f y)) x y = decide (cmpN (f x) (f y) < 0) := rfl
theorem swo_cmp (α : Type) (f : α → Int) : Go.Sort.SWO (Go.Proofs.ltOf fun x y : α => cmpN (f x) (f y)) where
  irrefl x := by
    rw [lt_cmp, decide_eq_false]
    rw [(Cnf.cmpN_zero _ _).2 rfl]; omega
  trans x y z h1 h2 := by
    rw [lt_cmp, decide_eq_true_eq] at *
    exact Cnf.cmpN_trans _ _ _ h1 h2
  ntrans x y z h1 h2 := by
    rw [lt_cmp, decide_eq_false_iff_not] at *
    intro h
    have a4 := Cnf.cmpN_neg (f x) (f y)
    have a5 := Cnf.cmpN_neg (f y) (f z)
    have a6 := Cnf.cmpN_neg (f x) (f z)
    have := Cnf.cmpN_le_trans (f z) (f y) (f x) (by omega) (by omega)
    omega
/-- Small numbers, as a sort's elements. -/
structure Sm where
  x : Int
  ok : -100000 ≤ x ∧ x ≤ 100000
instance : Inhabited Sm := ⟨⟨0, by omega⟩⟩
def smEnc (y : Sm) : Value := .int .i64 y.x
def smCmp (y z : Sm) : Int := cmpN y.x z.x
theorem sm_reads (blk off size : Nat) (w : World) : Go.Proofs.CmpReads Try.prog 28 #[] smEnc smCmp blk off size w := fun _m _os _dk _ x y =>
  (cmp_any x.x y.x _ x.ok.1 x.ok.2 y.ok.1 y.ok.2).mono fun _e _w' h => ⟨h.1, 0, h.2⟩
theorem norm_enters : ∀ args w, (callFunc 28 args).run Try.prog w = .ok (.enter 28 args) w := enters_of Try.func28 (by kernel_rfl) rfl
end Go.Proofs.Ytapaoccpbcjgeaa

/- cnf: Norm's sort: what it leaves. -/
namespace Go.Proofs.Ytapaoccpbcjgeaa
open Go.RowKit Go.BigFrame
open Go.Sort (PermIn SortedIn)
open Cnf (absI cmpN)

def smArr (l : List Int) (h : ∀ x ∈ l, -100000 ≤ x ∧ x ≤ 100000) : Array Sm := (l.pmap (fun x h => Sm.mk x h) h).toArray
theorem smArr_size (l : List Int) (h : ∀ x ∈ l, -100000 ≤ x ∧ x ≤ 100000) : (smArr l h).size = l.length := by simp [smArr]
theorem smArr_get (l : List Int) (h : ∀ x ∈ l, -100000 ≤ x ∧ x ≤ 100000) (i : Nat) (hi : i < l.length) : (smArr l h)[i]!.x = l.getD i 0 := by
  have : i < (smArr l h).size := by rw [smArr_size]; exact hi
  rw [getElem!_pos _ i this]
  simp [smArr, List.getD, hi]
theorem smArr_list (l : List Int) (h : ∀ x ∈ l, -100000 ≤ x ∧ x ≤ 100000) : (smArr l h).toList.map (fun y => y.x) = l := by
  unfold smArr
  rw [List.toList_toArray, List.map_pmap, List.pmap_eq_map, List.map_id']
/-- The row of numbers in block g. -/
def RowG (w : World) (g : Nat) (l : List Int) : Prop := ∀ j, j < l.length → w.cell? ⟨g, j, none⟩ = some (.int .i64 (l.getD j 0)) ∧ w.frozen? ⟨g, j, none⟩ = false
theorem row_holds {w : World} {g : Nat} {l : List Int} (h : ∀ x ∈ l, -100000 ≤ x ∧ x ≤ 100000) (hr : RowG w g l) : Go.Sort.Holds smEnc w g 0 (smArr l h) := by
  intro j hj
  rw [smArr_size] at hj
  rw [Nat.zero_add]
  refine ⟨?_, (hr j hj).2⟩
  rw [(hr j hj).1]
  show some (Value.int IntKind.i64 _) = some (Value.int IntKind.i64 (smArr l h)[j]!.x)
  rw [smArr_get l h j hj]
/-- The block g is a row of numbers, not frozen. -/
def BlkG (w : World) (g : Nat) (T : TypeId) (cap : Nat) : Prop := ∃ cur, w.heap[g]? = some (.cells cur T (0, 0)) ∧ cur.size = cap
theorem blk_putRow {α : Type} [Inhabited α] (enc : α → Value) {w : World} {g : Nat} {T : TypeId} {cap : Nat} (off : Nat) (d : Array α) (h : BlkG w g T cap) : BlkG (Go.Sort.putRow enc w g off d) g T cap := by
  obtain ⟨cur, h1, h2⟩ := h
  refine ⟨Go.Sort.putCells enc off d cur, ?_, by simp [Go.Sort.putCells, h2]⟩
  show (w.heap.modify g _)[g]? = _
  rw [Array.getElem?_modify, if_pos rfl, h1]; rfl
theorem own_of {w : World} {g base cap : Nat} {T : TypeId} {l : List Int} (hr : RowG w g l) (hb : BlkG w g T cap) (hc : l.length ≤ cap) (hm : cap ≤ maxLen) (hg : base ≤ g) : w.ownsRow base T 1 (.slice (some ⟨g, 0, none⟩) l.length cap) l.length (ints l) := by
  obtain ⟨cur, h1, h2⟩ := hb
  refine ⟨by simp [ints], .inr ⟨g, cap, cur, rfl, hg, h1, hc, hm, by omega, ?_⟩⟩
  apply List.ext_getElem?
  intro j
  rw [Nat.mul_one, List.getElem?_take]
  by_cases hj : j < l.length
  · rw [if_pos hj, ints_get l j hj]
    have := (hr j hj).1
    rw [cell_of_row _ _ _ _ _ _ h1] at this
    simpa using this
  · rw [if_neg hj]; simp [ints, hj]
def SortedG (l : List Int) (g : Nat) (w : World) (e : Ending) (w' : World) : Prop :=
  e = .returned (.tuple #[]) ∧ ∃ s : List Int, s.Perm l ∧ (s.Pairwise fun a b => cmpN a b ≤ 0) ∧ RowG w' g s ∧ w.heap.size ≤ w'.heap.size ∧ w'.os = w.os ∧ w'.tape = w.tape ∧ w'.output = w.output ∧ (∀ b, b < w.heap.size → b ≠ g → w'.heap[b]? = w.heap[b]?) ∧ ∀ T cap, BlkG w g T cap → BlkG w' g T cap
theorem sort_any (l : List Int) (g cap : Nat) (w : World) (h : ∀ x ∈ l, -100000 ≤ x ∧ x ≤ 100000) (hr : RowG w g l) (hg : g < w.heap.size) (hn : l.length ≤ 4000000) :
    Calls Try.prog 27 #[.slice (some ⟨g, 0, none⟩) l.length cap, .func (.func 28) #[] #[]] w (SortedG l g w) := by
  have hH := row_holds h hr
  have hz := smArr_size l h
  have hcon := Any.slices_SortFunc Try.sortLays smEnc (fun _ => rfl) smCmp (swo_cmp Sm fun y => y.x) 28 #[] g 0 cap (smArr l h) w norm_enters (sm_reads g 0 _ w).lays hH hg (by rw [hz]; omega)
  rw [hz] at hcon
  refine Calls.mono hcon ?_
  rintro e w' ⟨rfl, d', n, os, hp, hs, rfl⟩
  have hds : d'.size = l.length := by rw [hp.1, hz]
  have hgs : (Go.Sort.putRow smEnc (Go.Sort.ahead w n) g 0 d').heap.size = w.heap.size := by rw [Go.Sort.size_putRow]; rfl
  have hHW : Go.Sort.Holds smEnc (sortWorld smEnc w g 0 n d' os) g 0 d' := by
    unfold sortWorld
    exact Go.Sort.holds_grow smEnc _ os g 0 d' (by rw [hgs]; exact hg) (Go.Sort.holds_putRow smEnc _ g 0 _ d' (Go.Sort.holds_ahead smEnc w n g 0 _ hH) (by rw [hds, hz]))
  refine ⟨rfl, d'.toList.map (fun y => y.x), ?_, ?_, ?_, ?_, rfl, rfl, rfl, ?_, ?_⟩
  · have h2 := hp.2.2
    have e1 : d'.extract 0 l.length = d' := by rw [← hds]; simp
    have e2 : (smArr l h).extract 0 l.length = smArr l h := by
      have := Array.extract_size (xs := smArr l h)
      rwa [hz] at this
    rw [e1, e2] at h2
    have h3 := h2.map (fun y : Sm => y.x)
    rwa [smArr_list] at h3
  · rw [List.pairwise_map, List.pairwise_iff_getElem]
    intro i j hi hj hij
    rw [Array.length_toList] at hi hj
    have := hs i j (Nat.zero_le _) hij (by omega)
    rw [getElem!_pos d' j hj, getElem!_pos d' i hi] at this
    have h2 : ¬ cmpN d'[j].x d'[i].x < 0 := of_decide_eq_false this
    have h3 := Cnf.cmpN_neg d'[j].x d'[i].x
    simp only [Array.getElem_toList]
    omega
  · intro j hj
    rw [List.length_map, Array.length_toList] at hj
    have := hHW j hj
    rw [Nat.zero_add, getElem!_pos d' j hj] at this
    rw [show (d'.toList.map (fun y : Sm => y.x)).getD j 0 = d'[j].x by simp [List.getD, hj]]
    exact this
  · unfold sortWorld
    rw [Go.Sort.size_grow, hgs]; omega
  · intro b hb hbg
    unfold sortWorld
    rw [Go.Sort.heap_grow_old _ _ (by rw [hgs]; exact hb)]
    show ((Go.Sort.ahead w n).heap.modify g _)[b]? = _
    rw [Array.getElem?_modify, if_neg (by omega)]
    rfl
  · intro T cap hb
    obtain ⟨cur, h1, h2⟩ := blk_putRow (w := Go.Sort.ahead w n) smEnc 0 d' hb
    refine ⟨cur, ?_, h2⟩
    unfold sortWorld
    rw [Go.Sort.heap_grow_old _ _ (by rw [hgs]; exact hg)]
    exact h1
end Go.Proofs.Ytapaoccpbcjgeaa

/- cnf: Compact of a row of numbers. -/
namespace Go.Proofs.Ytapaoccpbcjgeaa
open Go.RowKit Go.BigFrame

theorem compact_len (l : List Int) : (Go.Lib.compact l).length ≤ l.length := by
  unfold Go.Lib.compact Go.Lib.compactUpTo
  rw [List.length_map]
  exact Nat.le_trans (List.length_filter_le _ _) (by simp)
/-- What a call that writes block g alone leaves. -/
def ButG (w w' : World) (g : Nat) : Prop := w.heap.size ≤ w'.heap.size ∧ w'.os = w.os ∧ w'.tape = w.tape ∧ w'.output = w.output ∧ (∀ b, b < w.heap.size → b ≠ g → w'.heap[b]? = w.heap[b]?) ∧ ∀ T cap, BlkG w g T cap → BlkG w' g T cap
theorem ButG.below {w w' : World} {g : Nat} (h : ButG w w' g) {B : Nat} (hB : B ≤ g) (hs : g < w.heap.size) : Below B w w' :=
  ⟨h.2.1, h.2.2.1, h.2.2.2.1, h.1, fun b hb => h.2.2.2.2.1 b (by omega) (by omega)⟩
theorem ButG.trans {w w1 w2 : World} {g : Nat} (h : ButG w w1 g) (h2 : ButG w1 w2 g) : ButG w w2 g :=
  ⟨Nat.le_trans h.1 h2.1, h2.2.1.trans h.2.1, h2.2.2.1.trans h.2.2.1, h2.2.2.2.1.trans h.2.2.2.1, fun b hb hg => (h2.2.2.2.2.1 b (Nat.lt_of_lt_of_le hb h.1) hg).trans (h.2.2.2.2.1 b hb hg), fun T cap hb => h2.2.2.2.2.2 T cap (h.2.2.2.2.2 T cap hb)⟩
theorem compact_any (l : List Int) (g cap : Nat) (w : World) (hr : RowG w g l) (hcap : l.length ≤ cap) (hn : l.length ≤ 4000000) :
    Calls Try.prog 29 #[.slice (some ⟨g, 0, none⟩) l.length cap] w fun e w' => e = .returned (.slice (some ⟨g, 0, none⟩) (Go.Lib.compact l).length cap) ∧ RowG w' g (Go.Lib.compact l) ∧ ButG w w' g := by
  have hH : Go.Sort.Holds (Value.int .i64) w g 0 l.toArray := by
    intro j hj
    have hj' : j < l.length := by simpa using hj
    rw [Nat.zero_add, getElem!_pos l.toArray j hj]
    refine ⟨?_, (hr j hj').2⟩
    rw [(hr j hj').1]
    simp [List.getD, hj']
  have hcl := compact_len l
  refine (Try.slices_Compact_int g 0 cap l w hH (by omega) hcap).mono ?_
  rintro e w' ⟨rfl, q, rfl⟩
  have hsz : (Go.Lib.compact l ++ List.replicate (l.length - (Go.Lib.compact l).length) 0).toArray.size = l.toArray.size := by simp; omega
  have hHW := Go.Sort.holds_putRow (Value.int .i64) (Go.Sort.ahead w q) g 0 l.toArray _ (Go.Sort.holds_ahead _ w q g 0 _ hH) hsz
  refine ⟨rfl, fun j hj => ?_, ?_, rfl, rfl, rfl, fun b hb hbg => ?_, fun T cap hb => blk_putRow (w := Go.Sort.ahead w q) (Value.int .i64) 0 _ hb⟩
  · have hj2 : j < (Go.Lib.compact l ++ List.replicate (l.length - (Go.Lib.compact l).length) 0).toArray.size := by rw [hsz]; simp; omega
    have := hHW j hj2
    rw [Nat.zero_add, getElem!_pos _ j hj2] at this
    refine ⟨?_, this.2⟩
    rw [this.1]
    simp [List.getElem_append_left hj, List.getD, hj]
  · rw [Go.Sort.size_putRow]; exact Nat.le_refl _
  · show ((Go.Sort.ahead w q).heap.modify g _)[b]? = _
    rw [Array.getElem?_modify, if_neg (by omega)]
    rfl
theorem sort_but {l : List Int} {g : Nat} {w : World} {e : Ending} {w' : World} (h : SortedG l g w e w') : e = .returned (.tuple #[]) ∧ ∃ s : List Int, s.Perm l ∧ (s.Pairwise fun a b => Cnf.cmpN a b ≤ 0) ∧ RowG w' g s ∧ ButG w w' g := by
  obtain ⟨he, s, h1, h2, h3, h4⟩ := h
  exact ⟨he, s, h1, h2, h3, h4⟩
end Go.Proofs.Ytapaoccpbcjgeaa

/- cnf: Norm. -/
namespace Go.Proofs.Ytapaoccpbcjgeaa
open Go.RowKit Go.BigFrame
open Cnf (litB countN absI cmpN bothB nextB IsNorm)

/-- append of all that a slice reads as, to a row of the call's own. -/
theorem wpList_app_reads {P : Program} {w : World} {ops : Array Oper} {rest : List Oper} {o : Oper} {a : Act} {Q : Exit → Act → World → Prop} (hgd : o.guard = none) (s x : Operand) (t : TypeId)
    (ho : o.op = .call { callee := .builtin .append, args := #[s, x], argTypes := #[t, t] })
    (base : Nat) (e : TypeId) (i : TypeInfo) (z : Value) (bytes : Nat) (ht : P.underlying t = some (.slice e)) (hi : P.info? e = some i) (hz : i.zero = some z) (hs1 : i.size = 1) (hb1 : i.bytes = bytes) (hzs : z.cells.size = 1)
    (v : Value) (n : Nat) (xs : List Value) (hs : a.eval s = v) (hown : w.ownsRow base e 1 v n xs) (vx : Value) (news : List Value) (B : Nat) (hx : a.eval x = vx) (hr : Reads w B vx news) (h1 : ∀ u ∈ news, u.oneCell' = true)
    (h63 : n + news.length ≤ maxLen) (hbytes : (n + news.length) * bytes ≤ 140737488355328) (hbase : base ≤ w.heap.size)
    (h : ∀ v' w', w'.ownsRow base e 1 v' (n + news.length) (xs ++ news) → w.grownBy w' v.ownBlock → wpList P ops Q rest (a.put o.dst v') w') : wpList P ops Q (o :: rest) a w := by
  obtain ⟨A, cap, rfl, hc, hm, hA, h4⟩ := hr
  cases A with
  | none =>
    have hc0 := hA rfl
    subst hc0
    have hl : news.length = 0 := by omega
    have : news = [] := List.eq_nil_of_length_eq_zero hl
    subst this
    refine wpList_append_own_none hgd s x t ho base e i 1 ht hi v n xs hs hown hx ?_
    exact h v w (by simpa using hown) (World.grownBy.refl w _)
  | some ad =>
    refine wpList_append_own w hgd s x t ho base e i z 1 bytes ht hi hz hs1 hb1 hzs (by decide) v n xs hs hown ad news.length cap news hx (Nat.mul_one _).symm ?_ h1 h63 hbytes hbase fun v' w' h2 h3 _ => h v' w' h2 h3
    intro j u hu
    have hj : 0 < news.length := by have := (List.getElem?_eq_some_iff.1 hu).1; omega
    obtain ⟨ad', e', _, hcell⟩ := h4 hj
    cases e'
    exact hcell j u hu
theorem ints_one (c : List Int) : ∀ u ∈ ints c, u.oneCell' = true := fun u hu => by
  obtain ⟨s, _, rfl⟩ := List.mem_map.1 hu; rfl
theorem next_at : ∀ l : List Int, nextB l = true ↔ ∃ j, j + 1 < l.length ∧ l.getD (j + 1) 0 = -(l.getD j 0)
  | [] => by simp [nextB]
  | [x] => by simp [nextB]
  | x :: y :: l => by
    unfold nextB
    rw [Bool.or_eq_true, decide_eq_true_eq, next_at (y :: l)]
    constructor
    · rintro (e | ⟨j, hj, e⟩)
      · exact ⟨0, by simp, by simpa using e⟩
      · exact ⟨j + 1, by simp at hj ⊢; omega, by simpa using e⟩
    · rintro ⟨j, hj, e⟩
      cases j with
      | zero => exact .inl (by simpa using e)
      | succ j => exact .inr ⟨j, by simp at hj ⊢; omega, by simpa using e⟩
theorem both_of {c l : List Int} (h : IsNorm c l) : bothB l = bothB c := by
  rw [Bool.eq_iff_iff, Cnf.bothB_iff, Cnf.bothB_iff]
  simp only [h.mem]
def normOk (c : List Int) : Bool := c.all (litB 100000)
def NormPost (c : List Int) (w : World) (e : Ending) (w' : World) : Prop :=
  Below w.heap.size w w' ∧ ((normOk c = false ∧ e = .returned (.tuple #[.slice none 0 0, .bool false])) ∨ (normOk c = true ∧ bothB c = true ∧ e = .returned (.tuple #[.slice none 0 0, .bool true])) ∨ (normOk c = true ∧ bothB c = false ∧ ∃ u l, IsNorm c l ∧ e = .returned (.tuple #[u, .bool false]) ∧ w'.ownsRow w.heap.size 3 1 u l.length (ints l)))
theorem sort_none (p : Option Addr) (cap : Nat) (fv : Value) (w : World) : Calls Try.prog 27 #[.slice p 0 cap, fv] w fun e w' => e = .returned (.tuple #[]) ∧ w' = w :=
  AnyF.slices_SortFunc_none { Try.sortLays with } p cap fv w
end Go.Proofs.Ytapaoccpbcjgeaa

/- cnf: Norm's contract. -/
namespace Go.Proofs.Ytapaoccpbcjgeaa
open Go.RowKit Go.BigFrame
open Cnf (litB countN absI cmpN bothB nextB IsNorm)

set_option maxRecDepth 100000 in
set_option maxHeartbeats 2000000 in
theorem norm_any (a : Value) (c : List Int) (w : World) (ha : IRow w AllB a c) (hn : c.length ≤ 4000000) : Calls Try.prog 17 #[a] w (NormPost c w) := by
  obtain ⟨i0, hi, hz0, hz1, hz2⟩ := info_parts infoInt
  obtain ⟨A, ca, rfl, hla, hma⟩ := RdS.form ha
  unfold maxLen at hma
  have HLT := Lib.hid (literals_any _ c 100000 AllB w ha (by omega) (by omega))
  have HR := Lib.hid (show Reads w w.heap.size (.slice A c.length ca) (ints c) from RdS.reads (S := AllB) (by rw [ints_len]; exact ha))
  have HP := Lib.hid (show NormPost c w = fun e w' => Below w.heap.size w w' ∧ ((normOk c = false ∧ e = .returned (.tuple #[.slice none 0 0, .bool false])) ∨ (normOk c = true ∧ bothB c = true ∧ e = .returned (.tuple #[.slice none 0 0, .bool true])) ∨ (normOk c = true ∧ bothB c = false ∧ ∃ u l, IsNorm c l ∧ e = .returned (.tuple #[u, .bool false]) ∧ w'.ownsRow w.heap.size 3 1 u l.length (ints l))) from rfl)
  generalize NormPost c w = post at *
  clear ha
  go_enter Try.func17, Try.ntmps17
  go_wp2_with fail
  refine HLT.out.mono ?_
  rintro e w' ⟨rfl, hw⟩
  obtain rfl := hw.symm
  clear HLT
  cases hok : c.all (litB 100000)
  · have HK := Lib.hid (show normOk c = false from hok)
    clear hok
    go_wp2_with fail
    rw [HP.out]
    exact ⟨Below.refl _ _, .inl ⟨HK.out, rfl⟩⟩
  · have HK := Lib.hid (show normOk c = true from hok)
    have HSM := Lib.hid (fun x (hx : x ∈ c) => lit_small (v := 100000) (by omega) (List.all_eq_true.1 hok x hx))
    clear hok
    go_wp2_with (at_builtin; refine wpList_app_reads rfl _ _ 35 rfl w.heap.size 3 i0 (.int .i64 0) 8 Try.underlying35 hi hz0 hz1 hz2 rfl _ 0 [] rfl (World.ownsRow_nil _ _ _ _) (.slice A c.length ca) (ints c) w.heap.size rfl HR.out (ints_one c) ?c1 ?c2 ?c3 ?_)
    case c1 => rw [ints_len]; unfold maxLen; omega
    case c2 => rw [ints_len]; omega
    case c3 => exact Nat.le_refl _
    intro v1 w1 hown1 hgrow1
    have hb1 : Below w.heap.size w w1 := (Below.refl _ _).grown hgrow1 (Nat.le_refl _) (fun k e => by cases e)
    simp only [ints_len] at hown1
    clear hgrow1
    by_cases h0 : c.length = 0
    · have hc0 : c = [] := List.eq_nil_of_length_eq_zero h0
      subst hc0
      simp only [List.length_nil] at hown1
      obtain ⟨A1, cap1, rfl⟩ := own_form hown1
      have HBC := Lib.hid (show bothB [] = false from rfl)
      have HIN := Lib.hid (show IsNorm [] [] from ⟨List.Pairwise.nil, fun x => Iff.rfl⟩)
      have HO := Lib.hid hown1
      clear hown1
      go_wp2_with fail
      refine (sort_none _ _ _ _).mono ?_
      rintro e w' ⟨rfl, hw⟩
      obtain rfl := hw.symm
      go_wp2_with fail
      refine (Try.slices_Compact_int_empty _ _ _).mono ?_
      rintro e w' ⟨rfl, hw⟩
      obtain rfl := hw.symm
      go_wp2
      go_loopw [5] (fun i wr => i = .int .i64 1 ∧ Hid (wr = w1)) (fun _ _ => 0)
      case atStart => exact ⟨rfl, Lib.hid rfl⟩
      case round =>
        obtain ⟨rfl, HW⟩ := hrel
        rw [HW.out]
        go_wp2
        rw [HP.out]
        exact ⟨hb1, .inr (.inr ⟨HK.out, HBC.out, _, [], HIN.out, rfl, HO.out⟩)⟩
    · rcases hown1.2 with ⟨_, e⟩ | ⟨g, cap, cur, rfl, hg, hgg, hnc, hcm, hcs, htake⟩
      · omega
      · have hr1 : RowG w1 g c := fun j hj => by
          refine ⟨?_, frozen_of_row _ _ _ _ _ hgg⟩
          rw [cell_of_row _ _ _ _ _ _ hgg]
          have := ints_get c j hj
          rw [← htake, Nat.mul_one, List.getElem?_take, if_pos hj] at this
          simpa using this
        have hbk : BlkG w1 g 3 cap := ⟨cur, hgg, by omega⟩
        have hgl := block_lt hgg
        have HSO := Lib.hid (sort_any c g cap w1 (fun x hx => (HSM.out x hx).2) hr1 hgl hn)
        clear hown1 hgg hcs htake hr1 h0
        go_wp2_with fail
        refine HSO.out.mono ?_
        rintro e w2 h
        obtain ⟨rfl, s, hp, hs, hr2, hbut⟩ := sort_but h
        have hcl := compact_len s
        rw [hp.length_eq] at hcl
        have hcm2 := compact_any s g cap w2 hr2 (by rw [hp.length_eq]; exact hnc) (by rw [hp.length_eq]; exact hn)
        rw [hp.length_eq] at hcm2
        have HIN := Lib.hid (Cnf.compact_isNorm c s hp hs)
        have HCM := Lib.hid hcm2
        clear hs hr2 hcm2 h HSO hp
        go_wp2_with fail
        refine HCM.out.mono ?_
        rintro e w3 ⟨rfl, hr3, hbut3⟩
        clear HCM
        generalize Go.Lib.compact s = l at *
        have hb13 := hbut.trans hbut3
        have HB3 := Lib.hid (hb1.trans (hb13.below hg hgl))
        have HOWN := Lib.hid (own_of hr3 (hb13.2.2.2.2.2 _ _ hbk) (by omega) hcm hg)
        have HR3 := Lib.hid hr3
        have HBO := Lib.hid (both_of HIN.out)
        have HNB := Lib.hid (Cnf.next_both l HIN.out.norml fun x hx => (HSM.out x ((HIN.out.mem x).1 hx)).1)
        unfold maxLen at hcm
        clear hbut hbut3 hb13 hbk hr3 hb1
        go_wp2
        go_loopw [5] (fun i wr => ∃ m nq : Nat, (m + 1 ≤ l.length ∨ m = 0) ∧ i = .int .i64 ((m : Int) + 1) ∧ Hid (wr = w3.drewN nq) ∧ Hid (∀ j, j < m → l.getD (j + 1) 0 ≠ -(l.getD j 0))) (fun i _ => l.length - (intOf i).toNat)
        case atStart => exact ⟨0, 0, .inr rfl, by go_num, Lib.hid rfl, Lib.hid fun j h => absurd h (Nat.not_lt_zero j)⟩
        case round =>
          obtain ⟨m, nq, hk, rfl, HW, HS⟩ := hrel
          by_cases hlt : m + 1 < l.length
          · have hcy := (cell_drew HW.out _).trans (HR3.out (m + 1) hlt).1
            have hcx := (cell_drew HW.out _).trans (HR3.out m (by omega)).1
            have HG := Lib.hid (show ∀ j, j < m + 1 → j = m ∨ j < m by omega)
            have HMX := Lib.hid (HSM.out _ ((HIN.out.mem _).1 (show l.getD m 0 ∈ l by simp [List.getD, show m < l.length by omega])))
            obtain ⟨x, hx⟩ : ∃ x, x = l.getD m 0 := ⟨_, rfl⟩
            obtain ⟨y, hy⟩ : ∃ y, y = l.getD (m + 1) 0 := ⟨_, rfl⟩
            rw [← hx] at hcx HMX
            rw [← hy] at hcy
            have HX := Lib.hid hx
            have HY := Lib.hid hy
            clear hx hy
            have hnx : IntKind.i64.wrap (-x) = -x := IntWalk.i64_in _ (by have := HMX.out; omega)
            have hw1 : IntKind.i64.wrap ((m : Int) + 1 - 1) = (m : Int) := by rw [show (m : Int) + 1 - 1 = (m : Int) by omega]; exact IntWalk.i64_in _ (by omega)
            have hi0 : (0 : Int) ≤ (m : Int) := by omega
            have hi1 : (m : Int) + 1 < (l.length : Int) := by omega
            have hi2 : (m : Int) < (l.length : Int) := by omega
            have hi3 : (0 : Int) ≤ (m : Int) + 1 := by omega
            by_cases hyx : y = -x
            · have HN := Lib.hid (show bothB c = true by
                rw [← HBO.out, ← HNB.out]
                exact (next_at l).2 ⟨m, hlt, by rw [← HX.out, ← HY.out]; exact hyx⟩)
              have hbb := below_drewN HB3.out nq
              rw [← HW.out] at hbb
              go_wp2
              go_quiet (fail)
              go_wp2
              rw [HP.out]
              exact ⟨below_drewN hbb _, .inr (.inl ⟨HK.out, HN.out, rfl⟩)⟩
            · have HS' : Hid (∀ j, j < m + 1 → l.getD (j + 1) 0 ≠ -(l.getD j 0)) := Lib.hid fun j hj => by
                rcases HG.out j hj with rfl | h
                · rw [← HX.out, ← HY.out]; exact hyx
                · exact HS.out j h
              go_wp2
              go_quiet (fail)
              go_wp2
              go_roundw
              case rel => exact ⟨m + 1, _, .inl (by omega), by go_num, Lib.hid (by rw [HW.out]; exact World.drewN_drewN _ _ _), HS'⟩
              case measure => simp [intOf]; omega
          · have HN := Lib.hid (show bothB c = false by
              rw [← HBO.out, ← HNB.out, ← Bool.not_eq_true, next_at]
              rintro ⟨j, hj, e⟩
              exact HS.out j (by omega) e)
            have hbb := below_drewN HB3.out nq
            have HO2 := Lib.hid (own_drewN HOWN.out nq)
            rw [← HW.out] at hbb HO2
            have hlt' : ¬ ((m : Int) + 1 < (l.length : Int)) := by omega
            go_wp2
            rw [HP.out]
            exact ⟨hbb, .inr (.inr ⟨HK.out, HN.out, _, l, HIN.out, rfl, HO2.out⟩)⟩
end Go.Proofs.Ytapaoccpbcjgeaa
