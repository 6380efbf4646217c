/- catalogue: Wants. -/
import Derived.Test.YtcnedecmmplmoaaGreatDoorCm24
import Derived.Maps.OwnIn
import Derived.Maps.Own
import Derived.Maps.Views
import Derived.MapViews
import Derived.DeepKeys4
set_option linter.unusedVariables false
set_option linter.unusedSimpArgs false
namespace Go.Proofs.YtcnedecmmplmoaaGreatDoor
open Go Go.RowKit Go.BigFrame
open Ver (cmpV BL parts brk)
attribute [local go_sem] Oper.semAt_some

theorem ItemsM.new {α : Type} {m : Nat} {R : World → (Nat → Prop) → List Value → α → Prop} (K : KeepsM R) {c : Nat} {w w' : World} {v v' : Value} {vs : List Value} {r : List α} (h : ItemsM m R w (newS c v.ownBlock) vs r) (hs : SameS w w' (fun b => v.ownBlock ≠ some b)) (hm : Moved w v v') : ItemsM m R w' (newS c v'.ownBlock) vs r := by
  refine ((h.weak K (S' := fun b => c ≤ b ∧ v.ownBlock ≠ some b ∧ v'.ownBlock ≠ some b) fun b hb hS => ⟨hS.1, hS.2, ?_⟩).keep K (hs.weak fun b _ hS => hS.2.1)).weak K fun b _ hS => ⟨hS.1, hS.2.2⟩
  rcases hm with e | ⟨g, e, hg⟩
  · rw [e]; exact hS.2
  · rw [e]; intro e2; cases e2; omega
theorem infoNeed : (Tryz.prog.info? 40).map (fun i => (i.zero, i.size, i.bytes)) = some (some (.agg #[.string ⟨#[]⟩, .slice none 0 0]), 2, 40) := by kernel_rfl
/-- Between two rounds of Wants. -/
structure WtI (w : World) (D : Nat) (pre : List ByteArray) (W : World) : Prop where
  len : pre.length ≤ 64
  ok : pre.all wantOk = true
  r0 : W.heap[w.heap.size]? = some (.cells #[.slice none 0 0] 42 (0, 0))
  r1 : W.heap[w.heap.size + 1]? = some (.cells #[.int .i64 0] 25 (0, 0))
  row : ∃ A c vs, W.heap[w.heap.size + 2]? = some (.cells #[.slice A pre.length c] 42 (0, 0)) ∧ W.ownsRow (D + 2) 40 2 (.slice A pre.length c) pre.length vs ∧ ItemsM 2 NdC W (newS (D + 2) (Value.slice A pre.length c).ownBlock) vs (pre.map wantOf)
  below : Below w.heap.size w W
structure WtX (w : World) (W : World) : Prop where
  r0 : W.heap[w.heap.size]? = some (.cells #[.slice none 0 0] 42 (0, 0))
  r1 : W.heap[w.heap.size + 1]? = some (.cells #[.int .i64 2] 25 (0, 0))
  below : Below w.heap.size w W
theorem own_at2 {w : World} {base n sz : Nat} {e : TypeId} {A : Option Addr} {c : Nat} {xs : List Value} (h : w.ownsRow base e sz (.slice A n c) n xs) : ∀ g, (Value.slice A n c).ownBlock = some g → base ≤ g ∧ g < w.heap.size := fun g hg => h.lt g hg
theorem WtI.own {w : World} {D bn : Nat} (hD : D = w.heap.size + 4) (hb : bn = w.heap.size + 3) : OwnB bn D (WtI w D) := by
  intro pre A C row h hg hr
  have hne : ∀ k, k ≠ w.heap.size + 3 → k ≠ D + 1 → k < A.heap.size → C.heap[k]? = A.heap[k]? := fun k h1 h2 hk => hg.block k hk (fun e => by rcases hr k e.symm with e2 | e2 <;> omega)
  obtain ⟨A', c, vs, hb', hown, hit⟩ := h.row
  refine ⟨h.len, h.ok, (hne _ (by omega) (by omega) (block_lt h.r0)).trans h.r0, (hne _ (by omega) (by omega) (block_lt h.r1)).trans h.r1, ⟨A', c, vs, (hne _ (by omega) (by omega) (block_lt hb')).trans hb', World.ownsRow.kept hown hg ?_, hit.keep NdC.keeps ⟨hg.size, fun b hb2 hS => hne b (by have := hS.1; omega) (by have := hS.1; omega) hb2⟩⟩, h.below.grown hg h.below.size (fun k e => by rcases hr k e with e2 | e2 <;> omega)⟩
  cases A' with
  | none => exact .inl rfl
  | some ad =>
    refine .inr fun e => ?_
    rcases hr _ e.symm with e2 | e2
    all_goals
      have := (hown.lt _ rfl).1
      omega
theorem WtI.later {w : World} {D : Nat} {pre : List ByteArray} {W W' : World} (h : WtI w D pre W) (hb : Below W.heap.size W W') : WtI w D pre W' := by
  obtain ⟨A', c, vs, hb', hown, hit⟩ := h.row
  exact ⟨h.len, h.ok, (hb.block _ (block_lt h.r0)).trans h.r0, (hb.block _ (block_lt h.r1)).trans h.r1, ⟨A', c, vs, (hb.block _ (block_lt hb')).trans hb', own_below hown hb (Nat.le_refl _), hit.keep NdC.keeps (SameS.below hb _)⟩, below_step h.below hb h.below.size⟩
theorem WtI.stop {w : World} {D : Nat} {pre : List ByteArray} {W : World} (h : WtI w D pre W) : WtX w ((W.setCell ⟨w.heap.size, 0, none⟩ (.slice none 0 0)).setCell ⟨w.heap.size + 1, 0, none⟩ (.int .i64 2)) := by
  have h1 : (W.setCell ⟨w.heap.size, 0, none⟩ (.slice none 0 0)).heap[w.heap.size + 1]? = some (.cells #[.int .i64 0] 25 (0, 0)) := (Below.heap_setCell _ _ _ _ (show w.heap.size + 1 ≠ w.heap.size by omega)).trans h.r1
  have h0 := blk_set h.r0 0 (.slice none 0 0)
  have h2 := blk_set h1 0 (.int .i64 2)
  refine ⟨(Below.heap_setCell _ _ _ _ (show w.heap.size ≠ w.heap.size + 1 by omega)).trans (by simpa using h0), by simpa using h2, (h.below.setCell (by show w.heap.size ≤ w.heap.size; omega) _).setCell (by show w.heap.size ≤ w.heap.size + 1; omega) _⟩
theorem WtX.own {w : World} {D bn : Nat} (hD : D = w.heap.size + 4) (hb : bn = w.heap.size + 3) (Z : Prop) (c : Code) : OwnB bn D (fun (_ : List ByteArray) W => Z ∧ c = .ret ∧ WtX w W) := by
  intro pre A C row h hg hr
  obtain ⟨hz, hc, h⟩ := h
  have hne : ∀ k, k ≠ w.heap.size + 3 → k ≠ D + 1 → k < A.heap.size → C.heap[k]? = A.heap[k]? := fun k h1 h2 hk => hg.block k hk (fun e => by rcases hr k e.symm with e2 | e2 <;> omega)
  exact ⟨hz, hc, (hne _ (by omega) (by omega) (block_lt h.r0)).trans h.r0, (hne _ (by omega) (by omega) (block_lt h.r1)).trans h.r1, h.below.grown hg h.below.size (fun k e => by rcases hr k e with e2 | e2 <;> omega)⟩
def WantsYes (s : ByteArray) (w : World) (e : Ending) (w' : World) : Prop := ∃ v, e = .returned (.tuple #[v, .int .i64 0]) ∧ NdsS w' (fun b => w.heap.size ≤ b) v (wantsOf s) ∧ Below w.heap.size w w'
def WantsNo (w : World) (e : Ending) (w' : World) : Prop := e = .returned (.tuple #[.slice none 0 0, .int .i64 2]) ∧ Below w.heap.size w w'
def WantsP (s : ByteArray) (w : World) (e : Ending) (w' : World) : Prop := if wantsOk s = true then WantsYes s w e w' else WantsNo w e w'
theorem wants_size (s : ByteArray) : ∀ x ∈ wrdB s, x.size ≤ s.size := fun x hx => by
  unfold wrdB at hx
  obtain ⟨p, hp, rfl⟩ := List.mem_map.1 hx
  have := parts_le 32 _ p hp
  rw [len_data] at this
  rw [← list_strL p, len_data] at this
  exact this
theorem KeepsFrom.of_below {D : Nat} {W W' : World} (h : Below W.heap.size W W') : KeepsFrom D W W' :=
  ⟨h.size, fun k o _ hk _ => (h.block k (Array.getElem?_eq_some_iff.1 hk).1).trans hk⟩
theorem own_cells {w : World} {base n sz : Nat} {e : TypeId} {v : Value} {xs : List Value} (h : w.ownsRow base e sz v n xs) {j : Nat} {o : Obj} (hj : v.ownBlock = some j) (ho : w.heap[j]? = some o) : o.isCells = true := by
  rcases h.2 with ⟨rfl, _⟩ | ⟨g, cap, cur, rfl, _, hgg, _⟩
  · cases hj
  · cases hj
    rw [hgg] at ho
    cases ho
    rfl
theorem box_one {W : World} {g : Nat} {v : Value} {T : TypeId} (h : W.heap[g]? = some (.cells #[v] T (0, 0))) : W.cell? ⟨g, 0, none⟩ = some v ∧ W.frozen? ⟨g, 0, none⟩ = false := by
  refine ⟨?_, frozen_of_row _ _ _ _ _ h⟩
  rw [cell_of_row _ _ _ _ _ _ h]; rfl
theorem wants_results {w : World} {W : World} {A : Option Addr} {n c : Nat} {z : Int} {t : Array Value} (h0 : W.heap[w.heap.size]? = some (.cells #[.slice A n c] 42 (0, 0))) (h1 : W.heap[w.heap.size + 1]? = some (.cells #[.int .i64 z] 25 (0, 0)))
    (ht2 : t.getD 2 undef = .pointer (some ⟨w.heap.size, 0, none⟩)) (ht3 : t.getD 3 undef = .pointer (some ⟨w.heap.size + 1, 0, none⟩)) : (results Tryz.f25 t).run Tryz.prog W = .ok (.tuple #[.slice A n c, .int .i64 z]) W := by
  have hp' : t[2]?.getD undef = .pointer (some ⟨w.heap.size, 0, none⟩) := by simpa using ht2
  have hp3' : t[3]?.getD undef = .pointer (some ⟨w.heap.size + 1, 0, none⟩) := by simpa using ht3
  have hl : (loadVar 42 ⟨w.heap.size, 0, none⟩).run Tryz.prog W = .ok (.slice A n c) W := by simp [(box_one h0).1, go_sem]
  have hl2 : (loadVar 25 ⟨w.heap.size + 1, 0, none⟩).run Tryz.prog W = .ok (.int .i64 z) W := by simp [(box_one h1).1, go_sem]
  simp [results, Tryz.results25, hp', hp3', asAddr, hl, hl2]
theorem rows4 (w : World) (a b c d : Obj) : ∃ W, W = (((w.alloc a).alloc b).alloc c).alloc d ∧ W.heap[w.heap.size]? = some a ∧ W.heap[w.heap.size + 1]? = some b ∧ W.heap[w.heap.size + 2]? = some c ∧ W.heap[w.heap.size + 3]? = some d ∧ Below w.heap.size w W ∧ W.heap.size = w.heap.size + 4 := by
  have h1 := heap_alloc_new w a
  have h2 := heap_alloc_new (w.alloc a) b
  have h3 := heap_alloc_new ((w.alloc a).alloc b) c
  have h4 := heap_alloc_new (((w.alloc a).alloc b).alloc c) d
  simp only [World.size_alloc] at h2 h3 h4
  refine ⟨_, rfl, ?_, ?_, ?_, h4, (((Below.refl _ _).alloc (Nat.le_refl _) _).alloc (by simp) _).alloc (by simp <;> omega) _ |>.alloc (by simp <;> omega) _, by simp⟩
  · exact (old_block _ _ _ (by simp <;> omega)).trans ((old_block _ _ _ (by simp <;> omega)).trans ((old_block _ _ _ (by simp)).trans h1))
  · exact (old_block _ _ _ (by simp <;> omega)).trans ((old_block _ _ _ (by simp)).trans h2)
  · exact (old_block _ _ _ (by simp)).trans h3
theorem box_put {W : World} {g : Nat} {v : Value} {T : TypeId} (h : W.heap[g]? = some (.cells #[v] T (0, 0))) (u : Value) : (W.setCell ⟨g, 0, none⟩ u).heap[g]? = some (.cells #[u] T (0, 0)) := by
  have := blk_set h 0 u
  simpa using this
set_option maxRecDepth 100000 in
set_option maxHeartbeats 4000000 in
theorem wants_any (s : ByteArray) (w : World) (hs : s.size ≤ 1000000) : CallsIn Fence.wide 8 Tryz.prog 25 #[.string s] w (WantsP s w) := by
  have hro : Fence.wide.round = none := rfl
  have HSZ := Lib.hid (fun x hx => Nat.le_trans (wants_size s x hx) hs)
  have HS := Lib.hid (show s.size ≤ maxLen by unfold maxLen; omega)
  refine callsIn_of_wpF Tryz.func25 rfl trivial ?_ hro
  simp only [Tryz.ntmps25, List.size_toArray, List.length_cons, List.length_nil, Nat.reduceAdd, Nat.reduceSub, Array.replicate_succ, Array.replicate_zero, List.push_toArray, List.append_toArray, List.nil_append, List.cons_append]
  refine wpF_seq_in fun K hK => ?_
  gi_wp2
  refine wpF_seq_in fun K hK => ?_
  gi_wp2
  refine wpF_seq ?_
  refine wpF_seq_in fun K hK => ?_
  gi_wp2_with (refine ⟨trivial, ((callsIn_wide (n := 7)).2 (words_any s _)).mono ?_⟩; rintro e W ⟨rfl, rfl⟩)
  refine wpF_block ?_
  obtain ⟨W2, hW2, hr0, hr1, hl0, hbx, hb2, hz2⟩ := rows4 w (.cells #[.slice none 0 0] 42) (.cells #[.int .i64 0] 25) (.cells #[.slice none 0 0] 42) (.cells #[.string s] 9)
  rw [← hW2]
  clear hW2
  have h0 : WtI w W2.heap.size [] W2 := ⟨by simp, rfl, hr0, hr1, ⟨none, 0, [], hl0, World.ownsRow_nil _ _ _ _, ItemsM.nil _ _⟩, hb2⟩
  clear hr0 hr1 hl0 hb2
  refine wpF_rangeFunc_ownB (bn := w.heap.size + 3) (by omega) hro (by omega) ⟨_, rfl⟩ (g := .tmp 9) rfl trivial (fun _ _ => rfl) (words_stops 7 (by omega) W2 (w.heap.size + 3) s HS.out hbx) (fun h k => h.trans k) ?kb (Below.refl _ _) (fun _ => rfl)
    (WtI w W2.heap.size) (fun c _ W => wantsOk s = false ∧ c = .ret ∧ WtX w W) (WtI.own hz2 rfl) (fun c => WtX.own hz2 rfl _ c) h0
    (fun x a' _ => a' = { tmps := #[.string s, undef, .pointer (some ⟨w.heap.size, 0, none⟩), .pointer (some ⟨w.heap.size + 1, 0, none⟩), .pointer (some ⟨w.heap.size + 1 + 1, 0, none⟩), .string x, undef, undef, .string s, .func (.func 87) #[] #[.pointer (some ⟨w.heap.size + 1 + 1 + 1, 0, none⟩)], .string x, undef, undef, undef, undef, undef, undef, undef, undef, undef, undef, undef, undef, undef, undef, undef, undef, undef], defers := [] }) (fun x a' s A C row h _ _ => h) ?assign ?body ?done ?stop
  case kb =>
    intro W l o o' hl hk ho _
    exact (grownBy_putObj' W l o').block _ (by have := block_lt hk; omega) (fun e => by cases e; omega)
  case assign =>
    intro l pre x W K hsz hI hK
    gi_wp2
    exact hK _ _ (KeepsFrom.refl _ _) rfl hI rfl
  case body =>
    rintro l pre x a' W hsz hI rfl hlen hpf
    have hxs : x.size ≤ 1000000 := HSZ.out x (hpf.subset (by simp))
    have HI := Lib.hid hI
    have HW := Lib.hid (show W2.heap.size + 2 ≤ W.heap.size by omega)
    have HMEM := Lib.hid (hpf.subset (show x ∈ pre ++ [x] by simp))
    have HPF := Lib.hid hpf
    cases hw : wantOk x with
    | false =>
      have HN := Lib.hid (fun w' => ((callsIn_wide (n := 5)).2 (want_no x w' hxs hw)).inRound l)
      have HF := Lib.hid (show wantsOk s = false by
        unfold wantsOk
        rw [show (wrdB s).all wantOk = false from all_bad wantOk _ _ x (List.getElem?_of_mem HMEM.out).choose_spec hw, Bool.and_false])
      clear hI hxs hw hpf
      gi_wp2_with (refine ⟨trivial, (HN.out _).mono ?_⟩; rintro e W3 ⟨rfl, hb3⟩; (have hbz := below_step hb3 ((Below.refl W3.heap.size W3).alloc (Nat.le_refl _) (.cells #[.string ⟨#[]⟩, .slice none 0 0] 40)) hb3.size); (have hI5 := Lib.hid (HI.out.later hbz)); (obtain ⟨q0, f0⟩ := box_one hI5.out.r0); (obtain ⟨q1, f1⟩ := box_one ((Below.heap_setCell (W3.alloc (.cells #[.string ⟨#[]⟩, .slice none 0 0] 40)) ⟨w.heap.size, 0, none⟩ (.slice none 0 0) _ (show w.heap.size + 1 ≠ w.heap.size by omega)).trans hI5.out.r1)))
      refine ⟨((KeepsFrom.of_below hbz).trans ((KeepsOthers.setCell _ _ _).from _)).trans ((KeepsOthers.setCell _ _ _).from _), HF.out, rfl, hI5.out.stop⟩
    | true =>
      have HN := Lib.hid (fun w' => ((callsIn_wide (n := 5)).2 (want_yes x w' hxs hw)).inRound l)
      have HWO := Lib.hid hw
      by_cases h64 : pre.length = 64
      · have HF := Lib.hid (show wantsOk s = false by
          unfold wantsOk
          rw [decide_eq_false (by have := HPF.out.length_le; simp at this; omega), Bool.false_and])
        have hlI : (pre.length : Int) = 64 := by omega
        have HL := Lib.hid h64
        clear hI hxs hw hpf h64
        gi_wp2_with (refine ⟨trivial, (HN.out _).mono ?_⟩; rintro e W3 ⟨A9, c9, rfl, hfr, hb3⟩; (have hbz := below_step hb3 ((Below.refl W3.heap.size W3).alloc (Nat.le_refl _) (.cells #[.string (bA 64 x), .slice A9 (rowsB (wantR x)).length c9] 40)) hb3.size); (have hI5 := Lib.hid (HI.out.later hbz)); (obtain ⟨q0, f0⟩ := box_one hI5.out.r0); (obtain ⟨q1, f1⟩ := box_one ((Below.heap_setCell (W3.alloc (.cells #[.string (bA 64 x), .slice A9 (rowsB (wantR x)).length c9] 40)) ⟨w.heap.size, 0, none⟩ (.slice none 0 0) _ (show w.heap.size + 1 ≠ w.heap.size by omega)).trans hI5.out.r1)); (obtain ⟨AL, cL, vsL, hbL, hoL, hiL⟩ := hI5.out.row); (obtain ⟨q2, f2⟩ := box_one hbL))
        refine ⟨((KeepsFrom.of_below hbz).trans ((KeepsOthers.setCell _ _ _).from _)).trans ((KeepsOthers.setCell _ _ _).from _), HF.out, rfl, hI5.out.stop⟩
      · have hlI : ¬ (pre.length : Int) = 64 := by omega
        have HL := Lib.hid h64
        obtain ⟨i0, hi0, hz0, hz1, hzb⟩ := info_parts infoNeed
        have HIN := Lib.hid (And.intro hi0 (And.intro hz0 (And.intro hz1 hzb)))
        clear hI hxs hw hpf h64 hi0 hz0 hz1 hzb
        gi_wp2_with (first
          | (refine ⟨trivial, (HN.out _).mono ?_⟩; rintro e W3 ⟨A9, c9, rfl, hfr, hb3⟩; (have hbz := below_step hb3 ((Below.refl W3.heap.size W3).alloc (Nat.le_refl _) (.cells #[.string (bA 64 x), .slice A9 (rowsB (wantR x)).length c9] 40)) hb3.size); (have hI5 := Lib.hid (HI.out.later hbz)); (obtain ⟨AL, cL, vsL, hbL, hoL, hiL⟩ := hI5.out.row); (obtain ⟨q2, f2⟩ := box_one hbL))
          | (gi_at_builtin
             go_loud (refine wpListIn_append_own_at _ rfl _ _ 42 rfl (W2.heap.size + 2) 40 i0 _ 2 40 Tryz.underlying42 HIN.out.1 HIN.out.2.1 HIN.out.2.2.1 HIN.out.2.2.2 rfl (by decide) _ pre.length vsL rfl (hoL.alloc _) ⟨W3.heap.size + 1, 0, none⟩ 1 1 [.string (bA 64 x), .slice A9 (rowsB (wantR x)).length c9] rfl rfl ?c1 (by simp [Value.oneCell']) ?c2 ?c3 ?c4 ?_)
             go_loud (case c1 => intro j u hu; have hnn := heap_alloc_new (W3.alloc (.cells #[.string (bA 64 x), .slice A9 (rowsB (wantR x)).length c9] 40)) (.cells #[.string (bA 64 x), .slice A9 (rowsB (wantR x)).length c9] 40); rw [World.size_alloc] at hnn; exact row_cells hnn j u (by simpa using hu))
             go_loud (case c2 => have := HI.out.len; unfold maxLen; omega)
             go_loud (case c3 => have := HI.out.len; omega)
             go_loud (case c4 => have h1 := HW.out; have h2 := hbz.size; simp at h2 ⊢; omega)
             go_loud (intro v' w7 hown7 hgr7 _ hat7)
             go_loud (obtain ⟨g7, c7, rfl⟩ := ownsRow_succ hown7)
             go_loud (have hne7 : ∀ k, k < W2.heap.size + 2 → (Value.slice AL pre.length cL).ownBlock ≠ some k := fun k hk e => by have := (hoL.lt k e).1; omega)
             go_loud (have hb7 : w7.heap[w.heap.size + 2]? = some (.cells #[.slice AL pre.length cL] 42 (0, 0)) := (hgr7.block _ (by have := block_lt hbL; simp at this ⊢; omega) (fun e => hne7 _ (by omega) e.symm)).trans ((old_block _ _ _ (block_lt hbL)).trans hbL))
             go_loud (obtain ⟨q7, f7⟩ := box_one hb7)))
        clear q2 f2 q7 f7
        have hb6 : Below W.heap.size W ((W3.alloc (.cells #[.string (bA 64 x), .slice A9 (rowsB (wantR x)).length c9] 40)).alloc (.cells #[.string (bA 64 x), .slice A9 (rowsB (wantR x)).length c9] 40)) := below_step hbz ((Below.refl _ _).alloc (Nat.le_refl _) _) hbz.size
        have hz6 : ((W3.alloc (.cells #[.string (bA 64 x), .slice A9 (rowsB (wantR x)).length c9] 40)).alloc (.cells #[.string (bA 64 x), .slice A9 (rowsB (wantR x)).length c9] 40)).heap.size = W3.heap.size + 2 := by simp
        have ho6 := hoL.alloc (.cells #[.string (bA 64 x), .slice A9 (rowsB (wantR x)).length c9] 40)
        have hi6 := hiL.keep NdC.keeps (SameS.below ((Below.refl (W3.alloc (.cells #[.string (bA 64 x), .slice A9 (rowsB (wantR x)).length c9] 40)).heap.size _).alloc (Nat.le_refl _) (.cells #[.string (bA 64 x), .slice A9 (rowsB (wantR x)).length c9] 40)) _)
        have h36 : Below W3.heap.size W3 ((W3.alloc (.cells #[.string (bA 64 x), .slice A9 (rowsB (wantR x)).length c9] 40)).alloc (.cells #[.string (bA 64 x), .slice A9 (rowsB (wantR x)).length c9] 40)) := ((Below.refl _ _).alloc (Nat.le_refl _) _).alloc (by simp) _
        have hlt := hoL.lt
        have hWL : ∀ g, (Value.slice AL pre.length cL).ownBlock = some g → g < W.heap.size := by
          obtain ⟨A0, c0, vs0, hb0, ho0, _⟩ := HI.out.row
          have e1 := (hbz.block _ (block_lt hb0)).trans hb0
          rw [hbL] at e1
          injection e1 with e1
          simp only [Obj.cells.injEq, Array.mk.injEq, List.cons.injEq, Value.slice.injEq, and_true, true_and] at e1
          obtain ⟨rfl, rfl⟩ := e1
          exact fun g hg => (ho0.lt g hg).2
        generalize (W3.alloc (.cells #[.string (bA 64 x), .slice A9 (rowsB (wantR x)).length c9] 40)).alloc (.cells #[.string (bA 64 x), .slice A9 (rowsB (wantR x)).length c9] 40) = W6 at *
        have hkk : ∀ k, k < W2.heap.size + 2 → k ≠ w.heap.size + 2 → k < W.heap.size → (w7.setCell ⟨w.heap.size + 1 + 1, 0, none⟩ (.slice (some ⟨g7, 0, none⟩) (pre.length + 1) c7)).heap[k]? = W.heap[k]? := fun k h1 h2 h3 =>
          (Below.heap_setCell _ _ _ _ (show k ≠ w.heap.size + 1 + 1 by omega)).trans ((hgr7.block k (Nat.lt_of_lt_of_le h3 hb6.size) (fun e => hne7 k h1 e.symm)).trans (hb6.block k h3))
        have hz7 := hgr7.size
        have hsz7 : (w7.setCell ⟨w.heap.size + 1 + 1, 0, none⟩ (.slice (some ⟨g7, 0, none⟩) (pre.length + 1) c7)).heap.size = w7.heap.size := by simp
        refine ⟨((KeepsFrom.of_below hb6).trans ((KeepsOthers.of_grownBy hgr7 (fun j o hj ho => own_cells ho6 hj ho)).from _)).trans ((KeepsOthers.setCell _ _ _).from _), hkk _ (by omega) (by omega) (by have := HW.out; omega), ?_⟩
        refine ⟨by have h1 := HI.out.len; have h2 := HL.out; rw [List.length_append]; simp; omega, by rw [List.all_append, HI.out.ok]; simpa using HWO.out, (hkk _ (by omega) (by omega) (by have := HW.out; omega)).trans HI.out.r0, (hkk _ (by omega) (by omega) (by have := HW.out; omega)).trans HI.out.r1, ?_, ?_⟩
        · rw [List.length_append, List.length_singleton]
          have h9 : W2.heap.size + 2 ≤ g7 := (hown7.lt g7 rfl).1
          refine ⟨some ⟨g7, 0, none⟩, c7, _, by have := blk_set hb7 0 (.slice (some ⟨g7, 0, none⟩) (pre.length + 1) c7); simpa using this, World.ownsRow.kept hown7 (row := some (w.heap.size + 2)) ⟨rfl, rfl, rfl, by simp, fun k hk hne => Below.heap_setCell _ _ _ _ (fun e => hne (by rw [e]))⟩ (.inr (fun e => by injection e with e; have e2 : g7 = w.heap.size + 2 := e; omega)), ?_⟩
          have hmv : Moved W6 (.slice AL pre.length cL) (.slice (some ⟨g7, 0, none⟩) (pre.length + 1) c7) := by
            rcases hat7 with e | e
            · exact .inl e
            · exact .inr ⟨_, e, Nat.le_refl _⟩
          have hit7 := ItemsM.new NdC.keeps hi6 (SameS.grown hgr7) hmv
          have hown3 : ∀ b, (Value.slice (some ⟨g7, 0, none⟩) (pre.length + 1) c7).ownBlock = some b → b < W.heap.size ∨ W3.heap.size ≤ b := fun b e => by
            rcases hat7 with h | h
            · have h' : (Value.slice (some ⟨g7, 0, none⟩) (pre.length + 1) c7).ownBlock = (Value.slice AL pre.length cL).ownBlock := h
              exact .inl (hWL b (h'.symm.trans e))
            · rw [e] at h; injection h with h; exact .inr (by omega)
          have hnew : NdC w7 (newS (W2.heap.size + 2) (Value.slice (some ⟨g7, 0, none⟩) (pre.length + 1) c7).ownBlock) [.string (bA 64 x), .slice A9 (rowsB (wantR x)).length c9] (wantOf x) := by
            refine ⟨_, rfl, ?_⟩
            have h1 : OutS BRow W3 (fun b => W.heap.size ≤ b ∧ b < W3.heap.size) (.slice A9 (rowsB (wantR x)).length c9) (rowsB (wantR x)) := OutS.weak BRow.keeps hfr fun b hb hS => ⟨hS, hb⟩
            have h2 := OutS.keep BRow.keeps h1 (w' := w7) ⟨Nat.le_trans h36.size hz7, fun b hb hS => (hgr7.block b (Nat.lt_of_lt_of_le hb h36.size) (fun e => by have := hWL b e.symm; omega)).trans (h36.block b hb)⟩
            exact OutS.weak BRow.keeps h2 fun b _ hS => ⟨by have := HW.out; omega, fun e => by rcases hown3 b e with h | h <;> omega⟩
          have hsn := hit7.snoc rfl hnew
          rw [show (pre ++ [x]).map wantOf = pre.map wantOf ++ [wantOf x] by simp]
          exact hsn.keep NdC.keeps ⟨by simp, fun b _ hS => Below.heap_setCell _ _ _ _ (show b ≠ w.heap.size + 1 + 1 by have := hS.1; omega)⟩
        · refine Below.setCell ?_ (show w.heap.size ≤ w.heap.size + 1 + 1 by omega) _
          exact (HI.out.below.trans (hb6.mono HI.out.below.size)).grown hgr7 (Nat.le_trans HI.out.below.size hb6.size) (fun k e => by have := (hlt k e).1; omega)
  case done =>
    intro D' xs W hD hS hI hk
    subst hS
    obtain rfl : D' = w.heap.size + 4 := by omega
    clear hD
    obtain ⟨AL, cL, vsL, hbL, hoL, hiL⟩ := hI.row
    obtain ⟨q2, f2⟩ := box_one hbL
    obtain ⟨q0, f0⟩ := box_one hI.r0
    have h1 : (W.setCell ⟨w.heap.size, 0, none⟩ (.slice AL (wrdB s).length cL)).heap[w.heap.size + 1]? = some (.cells #[.int .i64 0] 25 (0, 0)) := (Below.heap_setCell _ _ _ _ (show w.heap.size + 1 ≠ w.heap.size by omega)).trans hI.r1
    obtain ⟨q1, f1⟩ := box_one h1
    have HH := Lib.hid (And.intro hI (And.intro hbL (And.intro hoL (And.intro hiL (And.intro h1 hk)))))
    have hSz := hI.below.size
    have hDW := block_lt hk
    clear hI hbL hoL hiL h1 hk
    refine wpF_in ?_
    gi_wp2
    obtain ⟨hI, hbL, hoL, hiL, h1, hk⟩ := HH.out
    have hk' : ((W.setCell ⟨w.heap.size, 0, none⟩ (.slice AL (wrdB s).length cL)).setCell ⟨w.heap.size + 1, 0, none⟩ (.int .i64 0)).heap[w.heap.size + 4]? = some (.deferred (some [])) := (Below.heap_setCell _ _ _ _ (show w.heap.size + 4 ≠ w.heap.size + 1 by omega)).trans ((Below.heap_setCell _ _ _ _ (show w.heap.size + 4 ≠ w.heap.size by omega)).trans hk)
    refine ⟨by simp, .inl ⟨_, _, rfl, run_takeDeferred hk', ?_⟩⟩
    have hz3 : ((W.setCell ⟨w.heap.size, 0, none⟩ (.slice AL (wrdB s).length cL)).setCell ⟨w.heap.size + 1, 0, none⟩ (.int .i64 0)).heap.size = W.heap.size := by simp
    have hp0 : ((W.setCell ⟨w.heap.size, 0, none⟩ (.slice AL (wrdB s).length cL)).setCell ⟨w.heap.size + 1, 0, none⟩ (.int .i64 0)).heap[w.heap.size]? = some (.cells #[.slice AL (wrdB s).length cL] 42 (0, 0)) := (Below.heap_setCell _ _ _ _ (show w.heap.size ≠ w.heap.size + 1 by omega)).trans (by have := blk_set hI.r0 0 (.slice AL (wrdB s).length cL); simpa using this)
    have hp1 : ((W.setCell ⟨w.heap.size, 0, none⟩ (.slice AL (wrdB s).length cL)).setCell ⟨w.heap.size + 1, 0, none⟩ (.int .i64 0)).heap[w.heap.size + 1]? = some (.cells #[.int .i64 0] 25 (0, 0)) := by have := blk_set h1 0 (.int .i64 0); simpa using this
    have hkk : ∀ k, w.heap.size + 5 ≤ k → (((W.setCell ⟨w.heap.size, 0, none⟩ (.slice AL (wrdB s).length cL)).setCell ⟨w.heap.size + 1, 0, none⟩ (.int .i64 0)).putObj (w.heap.size + 4) (.deferred none)).heap[k]? = W.heap[k]? := fun k hk5 => (World.putObj_heap_other (by omega)).trans ((Below.heap_setCell _ _ _ _ (show k ≠ w.heap.size + 1 by omega)).trans (Below.heap_setCell _ _ _ _ (show k ≠ w.heap.size by omega)))
    have hok : wantsOk s = true := by
      unfold wantsOk
      rw [decide_eq_true hI.len, hI.ok]; rfl
    refine ⟨_, wants_results ((World.putObj_heap_other (by omega)).trans hp0) ((World.putObj_heap_other (by omega)).trans hp1) rfl rfl, ?_⟩
    unfold WantsP
    rw [if_pos hok]
    refine ⟨_, rfl, ?_, ?_⟩
    · refine OutM.weak NdC.keeps (S := fun b => W2.heap.size + 2 ≤ b) ?_ (fun b _ hS => by omega)
      refine OutM.keep NdC.keeps (w := W) ⟨vsL, ?_, ?_⟩ ⟨by rw [World.putObj_size, hz3]; exact Nat.le_refl _, fun b _ hS => hkk b (by omega)⟩
      · have := (RdS.own hoL)
        unfold wantsOf
        rw [List.length_map]
        exact this
      · exact hiL.weak NdC.keeps fun b _ hS => hS.1
    · exact ((hI.below.setCell (show w.heap.size ≤ w.heap.size by omega) _).setCell (show w.heap.size ≤ w.heap.size + 1 by omega) _).grown (grownBy_putObj' _ _ _) (by rw [hz3]; exact hSz) (fun k e => by cases e; omega)
  case stop =>
    intro D' c pre W hD hSp hX hk
    obtain rfl : D' = w.heap.size + 4 := by omega
    clear hD
    obtain ⟨hF, rfl, hX⟩ := hX
    have HH := Lib.hid (And.intro hX hk)
    have HF := Lib.hid hF
    have hSz := hX.below.size
    have hDW := block_lt hk
    clear hX hk hF
    gi_wp2
    refine ⟨by simp, .inl ⟨_, _, rfl, run_takeDeferred HH.out.2, ?_⟩⟩
    have hp0 := HH.out.1.r0
    have hp1 := HH.out.1.r1
    refine ⟨_, wants_results ((World.putObj_heap_other (by omega)).trans hp0) ((World.putObj_heap_other (by omega)).trans hp1) rfl rfl, ?_⟩
    unfold WantsP
    rw [if_neg (by rw [HF.out]; decide)]
    exact ⟨rfl, HH.out.1.below.grown (grownBy_putObj' _ _ _) hSz (fun k e => by cases e; omega)⟩
end Go.Proofs.YtcnedecmmplmoaaGreatDoor

/- catalogue: the set of what a reader has seen: keys of two texts. -/
namespace Go.Proofs.YtcnedecmmplmoaaGreatDoor
open Go Go.RowKit Go.BigFrame Go.Maps
open Ver (cmpV BL parts brk)

set_option maxRecDepth 100000
theorem laidOutC : laidOutB Tryz.prog = true := by kernel_rfl
theorem rowKey : (62 : TypeId) < Tryz.prog.types.size := of_decide_eq_true (by kernel_rfl)
theorem deepKey : Tryz.prog.keyTypeAt 3 62 = true := by kernel_rfl
theorem typeKey : Tryz.prog.keyType 62 = true := by kernel_rfl
theorem wideKey : (match Tryz.prog.underlying 62 with | some (.array _ _) | some (.struct _) => true | _ => false) = true := by kernel_rfl
theorem keyPair : Keyed Tryz.prog 62 := Keyed.of_law (deep_law_laid laidOutC (m := 2) (by omega) rowKey (by kernel_rfl) wideKey)
theorem cellsKey : Tryz.prog.cellsOf 62 = 2 := by kernel_rfl
theorem key_lits (n : Nat) (a b : ByteArray) (ha : a.size ≤ maxLen) (hb : b.size ≤ maxLen) : Tryz.prog.keyLits (n + 1 + 1) 62 [.string a, .string b] = some [.string a.data.toList, .string b.data.toList] := by
  have h1 : ∀ s : ByteArray, s.size ≤ maxLen → Tryz.prog.keyLits (n + 1) 9 [.string s] = some [.string s.data.toList] := fun s hs => by
    simp [Program.keyLits, Tryz.underlying9, hs]
  unfold Program.keyLits
  simp [Tryz.underlying62, cellsKey, cellsStr, h1 a ha, h1 b hb]
theorem key_some (a b : ByteArray) (ha : a.size ≤ maxLen) (hb : b.size ≤ maxLen) : ∃ l, keyOf Tryz.prog 62 (.agg #[.string a, .string b]) = some l := by
  have h2 : Value.formed Tryz.prog 62 (.agg #[.string a, .string b]) = true := by simp [Value.formed, Tryz.underlying62, cellsKey]
  simp only [keyOf, Tryz.underlying62, typeKey, h2, Bool.and_self, if_true]
  rw [show (Value.agg #[.string a, .string b]).cells.toList = [.string a, .string b] from rfl, show Tryz.prog.types.size + 1 = 201 + 1 + 1 by kernel_rfl, key_lits _ a b ha hb]
  exact ⟨_, rfl⟩
noncomputable def kP (a b : ByteArray) : Lit := (keyOf Tryz.prog 62 (.agg #[.string a, .string b])).getD (.bool true)
theorem kP_key (a b : ByteArray) (ha : a.size ≤ maxLen) (hb : b.size ≤ maxLen) : keyOf Tryz.prog 62 (.agg #[.string a, .string b]) = some (kP a b) := by
  obtain ⟨l, hl⟩ := key_some a b ha hb
  unfold kP
  rw [hl]; rfl
theorem kP_inj {a b c d : ByteArray} (ha : a.size ≤ maxLen) (hb : b.size ≤ maxLen) (hc : c.size ≤ maxLen) (hd : d.size ≤ maxLen) (h : kP a b = kP c d) : a = c ∧ b = d := by
  have h1 := kP_key a b ha hb
  have h2 := kP_key c d hc hd
  rw [← h] at h2
  have := keyPair.inj h1 h2
  simpa using this
theorem zeroUnitC (w : World) : (zeroValue 63).run Tryz.prog w = .ok (.agg #[]) w := by kernel_rfl
/-- Block mb is the set of the names and versions of l. -/
def SeenP (w : World) (mb : Nat) (l : List Va) : Prop :=
  ∃ D : DataW Unit, w.ownsMap Tryz.prog 62 unitElem mb l.length D ∧ ∀ a b : ByteArray, a.size ≤ maxLen → b.size ≤ maxLen → has D (kP a b) = dupV l a b
theorem SeenP.made (w : World) : SeenP (w.alloc (.map #[] 0)) w.heap.size [] := ⟨_, World.ownsMap_made _ _ _ _, fun _ _ _ _ => rfl⟩
theorem SeenP.kept {w w' : World} {mb : Nat} {l : List Va} {row : Option Nat} (h : SeenP w mb l) (hg : w.grownBy w' row) (hne : some mb ≠ row) : SeenP w' mb l := by
  obtain ⟨D, h1, h2⟩ := h; exact ⟨D, h1.kept hg hne, h2⟩
theorem SeenP.lt {w : World} {mb : Nat} {l : List Va} (h : SeenP w mb l) : mb < w.heap.size := by
  obtain ⟨D, h1, _⟩ := h; exact h1.lt
theorem SeenP.block {w w' : World} {mb : Nat} {l : List Va} (h : SeenP w mb l) (hb : w'.heap[mb]? = w.heap[mb]?) : SeenP w' mb l := by
  obtain ⟨D, ⟨es, c, h1, h3⟩, h2⟩ := h; exact ⟨D, ⟨es, c, hb.trans h1, h3⟩, h2⟩
/-- Names and versions are those of l. -/
theorem SeenP.as {w : World} {mb : Nat} {l m : List Va} (h : SeenP w mb l) (hl : m.length = l.length) (hd : ∀ a b, dupV m a b = dupV l a b) : SeenP w mb m := by
  obtain ⟨D, h1, h2⟩ := h
  exact ⟨D, by rw [hl]; exact h1, fun a b ha hb => (h2 a b ha hb).trans (hd a b).symm⟩
/-- Block mb is the set of something. -/
def SeenE (w : World) (mb : Nat) (_ : List Va) : Prop := ∃ sl, SeenP w mb sl
theorem SeenE.lt {w : World} {mb : Nat} {l : List Va} (h : SeenE w mb l) : mb < w.heap.size := h.choose_spec.lt
theorem SeenE.block {w w' : World} {mb : Nat} {l : List Va} (h : SeenE w mb l) (hb : w'.heap[mb]? = w.heap[mb]?) : SeenE w' mb l := ⟨_, h.choose_spec.block hb⟩
theorem SeenE.as {w : World} {mb : Nat} {l m : List Va} (h : SeenE w mb l) (_ : m.length = l.length) (_ : ∀ a b, dupV m a b = dupV l a b) : SeenE w mb m := h
theorem dupV_snoc (l : List Va) (x : Va) (a b : ByteArray) : dupV (l ++ [x]) a b = (dupV l a b || decide (x.name = a ∧ x.ver = b)) := by simp [dupV]
theorem SeenP.put {w w' : World} {mb : Nat} {l : List Va} {x : Va} {D : DataW Unit} (ho : w.ownsMap Tryz.prog 62 unitElem mb l.length D) (hn : x.name.size ≤ maxLen) (hv : x.ver.size ≤ maxLen)
    (hD : ∀ a b : ByteArray, a.size ≤ maxLen → b.size ≤ maxLen → has D (kP a b) = dupV l a b) (h : w'.ownsMap Tryz.prog 62 unitElem mb (l.length + 1) (D.put (kP x.name x.ver) (.agg []))) : SeenP w' mb (l ++ [x]) := by
  refine ⟨_, by rw [List.length_append]; exact h, fun a b ha hb => ?_⟩
  rw [dupV_snoc]
  by_cases e : x.name = a ∧ x.ver = b
  · obtain ⟨rfl, rfl⟩ := e
    rw [has_put_same ho.isMap (keyPair.key (kP_key _ _ hn hv))]
    simp
  · rw [has_put_other (fun h3 => e (by have := kP_inj hn hv ha hb h3.symm; exact this)), hD a b ha hb, decide_eq_false e, Bool.or_false]
end Go.Proofs.YtcnedecmmplmoaaGreatDoor
