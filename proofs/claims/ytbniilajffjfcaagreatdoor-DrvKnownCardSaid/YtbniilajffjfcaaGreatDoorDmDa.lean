/- drv: Sort: what is ready. -/
import Derived.Test.YtbniilajffjfcaaGreatDoorDmD7
import Derived.Test.YtbniilajffjfcaaGreatDoorDmD9
set_option linter.unusedVariables false
set_option linter.unusedSimpArgs false
namespace Go.Proofs.YtbniilajffjfcaaGreatDoor
open Go.RowKit Go.BigFrame Go.Maps
open Drv (posO edges edgeAt dupB stepS sortS cntO Wt Ordered)
open Cnf (Heaped)

/-- The heap of what is ready, the waits, the order so far. -/
structure SoW (W2 : World) (wb wc fc fb n : Nat) (w : World) (ws : List Int) (yv : Value) (h : List Int) (ov : Value) (out : List Nat) : Prop where
  ch : Ch W2 w (fun b => b = wb ∨ b = fb)
  wbk : w.heap[wb]? = some (.cells (ints ws).toArray 3 (0, 0))
  wl : ws.length = n
  rdy : Rdy w W2.heap.size fb #[yv] yv h
  heap : Heaped h h.length
  ow : w.ownsRow W2.heap.size 3 1 ov out.length (ints (ofN out))
  dj : ∀ k, yv.ownBlock = some k → ov.ownBlock ≠ some k
  wck : W2.heap[wc]? = some (.cells #[.slice (some ⟨wb, 0, none⟩) n n] 51 (0, 0))
  fck : W2.heap[fc]? = some (.cells #[.pointer (some ⟨fb, 0, none⟩)] 83 (0, 0))
  ord : wb ≠ fb ∧ wc ≠ wb ∧ wc ≠ fb ∧ fc ≠ wb ∧ fc ≠ fb ∧ wb < W2.heap.size ∧ fb < W2.heap.size
theorem SoW.wcw {W2 : World} {wb wc fc fb n : Nat} {w : World} {ws : List Int} {yv : Value} {h : List Int} {ov : Value} {out : List Nat} (H : SoW W2 wb wc fc fb n w ws yv h ov out) : w.heap[wc]? = some (.cells #[.slice (some ⟨wb, 0, none⟩) n n] 51 (0, 0)) :=
  H.ch.heap H.wck (by have := H.ord; omega)
theorem SoW.fcw {W2 : World} {wb wc fc fb n : Nat} {w : World} {ws : List Int} {yv : Value} {h : List Int} {ov : Value} {out : List Nat} (H : SoW W2 wb wc fc fb n w ws yv h ov out) : w.heap[fc]? = some (.cells #[.pointer (some ⟨fb, 0, none⟩)] 83 (0, 0)) :=
  H.ch.heap H.fck (by have := H.ord; omega)
/-- One more is ready. -/
theorem SoW.pushed {W2 : World} {wb wc fc fb n : Nat} {w w' : World} {ws : List Int} {yv v' : Value} {h h' : List Int} {ov : Value} {out : List Nat} {x : Int} (H : SoW W2 wb wc fc fb n w ws yv h ov out) (hp : Pushed W2.heap.size fb #[yv] yv h x w w' v' h') : SoW W2 wb wc fc fb n w' ws v' h' ov out := by
  obtain ⟨o1, o2, o3, o4, o5, o6, o7⟩ := H.ord
  have hB : ∀ k, yv.ownBlock = some k → W2.heap.size ≤ k := fun k e => (H.rdy.own.lt k e).1
  refine ⟨H.ch.trans hp.ch (fun k hk h => ?_), hp.ch.heap H.wbk ?_, H.wl, hp.rdy, hp.heap, hp.ch.own H.ow ?_, ?_, H.wck, H.fck, H.ord⟩
  · rcases h with h | h
    · exact .inr h
    · have := hB k h; omega
  · rintro (h | h)
    · exact o1 h
    · have := hB wb h; omega
  · rintro k hk (h | h)
    · have := (H.ow.lt k hk).1; omega
    · exact H.dj k h hk
  · intro k hk hk2
    rcases hp.moved with e | ⟨g, e, hg⟩
    · exact H.dj k (e ▸ hk) hk2
    · rw [e] at hk; cases hk
      have := (H.ow.lt k hk2).2; omega
theorem SoW.wait {W2 : World} {wb wc fc fb n : Nat} {w : World} {ws : List Int} {yv : Value} {h : List Int} {ov : Value} {out : List Nat} (H : SoW W2 wb wc fc fb n w ws yv h ov out) (i : Nat) (x : Int) : SoW W2 wb wc fc fb n (w.setCell ⟨wb, i, none⟩ (.int .i64 x)) (ws.set i x) yv h ov out := by
  obtain ⟨o1, o2, o3, o4, o5, o6, o7⟩ := H.ord
  refine ⟨H.ch.setCell (p := ⟨wb, i, none⟩) (.inl rfl) _, by rw [blk_set H.wbk i _, ints_set']; simp [List.setIfInBounds_toArray], by rw [List.length_set]; exact H.wl, ⟨(Below.heap_setCell _ _ _ _ (show fb ≠ wb from fun e => o1 e.symm)).trans H.rdy.blk, H.rdy.at7, ownsRow_setCell_other H.rdy.own (a := ⟨wb, i, none⟩) (fun e => by have := (H.rdy.own.lt wb e).1; omega) _, H.rdy.ne⟩, H.heap,
    ownsRow_setCell_other H.ow (a := ⟨wb, i, none⟩) (fun e => by have := (H.ow.lt wb e).1; omega) _, H.dj, H.wck, H.fck, H.ord⟩
theorem SoW.drew {W2 : World} {wb wc fc fb n : Nat} {w : World} {ws : List Int} {yv : Value} {h : List Int} {ov : Value} {out : List Nat} (H : SoW W2 wb wc fc fb n w ws yv h ov out) : SoW W2 wb wc fc fb n w.drew ws yv h ov out :=
  ⟨H.ch.drew, H.wbk, H.wl, ⟨H.rdy.blk, H.rdy.at7, H.rdy.own.drew, H.rdy.ne⟩, H.heap, H.ow.drew, H.dj, H.wck, H.fck, H.ord⟩
def ReadyPost (W2 : World) (wb wc fc fb n : Nat) (ws : List Int) (h : List Int) (ov : Value) (out : List Nat) (i : Nat) (e : Ending) (w' : World) : Prop :=
  e = .returned (.tuple #[]) ∧ ∃ yv' h', SoW W2 wb wc fc fb n w' ws yv' h' ov out ∧ (ws.getD i 0 = 0 → (∀ k, k ∈ h' ↔ k ∈ h ∨ k = i) ∧ h'.length = h.length + 1) ∧ (ws.getD i 0 ≠ 0 → h' = h)
set_option maxRecDepth 100000 in
set_option maxHeartbeats 4000000 in
theorem ready_any (W2 : World) (wb wc fc fb n : Nat) (w : World) (ws : List Int) (yv : Value) (h : List Int) (ov : Value) (out : List Nat) (H : SoW W2 wb wc fc fb n w ws yv h ov out) (i : Nat) (hi : i < n) (hn : n ≤ 1000000) (hl : h.length ≤ 1000000) (hb : -1000000 ≤ ws.getD i 0 ∧ ws.getD i 0 ≤ 1000000) :
    Calls Tryz.prog 50 #[.int .i64 (i : Int), .pointer (some ⟨wc, 0, none⟩), .pointer (some ⟨fc, 0, none⟩)] w (ReadyPost W2 wb wc fc fb n ws h ov out i) := by
  have HP := Lib.hid (fun (w' : World) (yv' : Value) (h' : List Int) (h1 : SoW W2 wb wc fc fb n w' ws yv' h' ov out) (h2 : ws.getD i 0 = 0 → (∀ k, k ∈ h' ↔ k ∈ h ∨ k = i) ∧ h'.length = h.length + 1) (h3 : ws.getD i 0 ≠ 0 → h' = h) => show ReadyPost W2 wb wc fc fb n ws h ov out i (.returned (.tuple #[])) w' from ⟨rfl, yv', h', h1, h2, h3⟩)
  generalize ReadyPost W2 wb wc fc fb n ws h ov out i = post at *
  have hc1 : w.cell? ⟨wc, 0, none⟩ = some (.slice (some ⟨wb, 0, none⟩) n n) := by rw [blk_cell H.wcw 0]; rfl
  have hc2 : w.cell? ⟨wb, i, none⟩ = some (.int .i64 (ws.getD i 0)) := by rw [blk_cell H.wbk i, List.getElem?_toArray]; exact ints_get ws i (by rw [H.wl]; exact hi)
  have hc3 : w.cell? ⟨fc, 0, none⟩ = some (.pointer (some ⟨fb, 0, none⟩)) := by rw [blk_cell H.fcw 0]; rfl
  have hii : (i : Int) < (n : Int) := by omega
  have HH := Lib.hid H
  have HPU := Lib.hid (heapPush_any (i : Int) W2.heap.size fb #[yv] yv h w H.rdy H.heap H.ch.size (by omega))
  unfold hp HeapPush at HPU
  clear H
  obtain ⟨x, hx⟩ : ∃ x, x = ws.getD i 0 := ⟨_, rfl⟩
  rw [← hx] at HP hc2 hb
  clear hx
  go_enter Tryz.func50, Tryz.ntmps50
  by_cases h0 : x = 0
  · subst h0
    go_wp2_with fail
    refine HPU.out.mono ?_
    rintro e w1 ⟨rfl, v', h', hpu⟩
    have HS := Lib.hid (HH.out.pushed hpu)
    have HM := Lib.hid hpu.mem
    have HL := Lib.hid hpu.len
    clear hpu
    go_wp2
    go_end0
    exact HP.out _ _ _ HS.out (fun _ => ⟨HM.out, HL.out⟩) (fun h => absurd rfl h)
  · go_wp2
    go_end0
    exact HP.out _ _ _ HH.out (fun h => absurd h h0) (fun _ => rfl)
end Go.Proofs.YtbniilajffjfcaaGreatDoor

/- drv: Sort: steps of its state. -/
namespace Go.Proofs.YtbniilajffjfcaaGreatDoor
open Go.RowKit Go.BigFrame Go.Maps
open Drv (posO edges edgeAt dupB stepS sortS cntO Wt Ordered)
open Cnf (Heaped)

theorem SoW.popped {W2 : World} {wb wc fc fb n : Nat} {w w' : World} {ws : List Int} {yv v' : Value} {h h' : List Int} {ov : Value} {out : List Nat} {x : Int} (H : SoW W2 wb wc fc fb n w ws yv h ov out) (hp : Popped W2.heap.size fb #[yv] yv h x w w' v' h') : SoW W2 wb wc fc fb n w' ws v' h' ov out := by
  obtain ⟨o1, o2, o3, o4, o5, o6, o7⟩ := H.ord
  have hB : ∀ k, yv.ownBlock = some k → W2.heap.size ≤ k := fun k e => (H.rdy.own.lt k e).1
  refine ⟨H.ch.trans hp.ch (fun k hk h => ?_), hp.ch.heap H.wbk ?_, H.wl, hp.rdy, hp.heap, hp.ch.own H.ow ?_, ?_, H.wck, H.fck, H.ord⟩
  · rcases h with h | h
    · exact .inr h
    · have := hB k h; omega
  · rintro (h | h)
    · exact o1 h
    · have := hB wb h; omega
  · rintro k hk (h | h)
    · have := (H.ow.lt k hk).1; omega
    · exact H.dj k h hk
  · intro k hk
    exact H.dj k (hp.moved ▸ hk)
theorem Popped.parts {base g : Nat} {cs : Array Value} {yv v' : Value} {h h' : List Int} {x : Int} {w w' : World} (hp : Popped base g cs yv h x w w' v' h') (hn : h.Nodup) : (∀ k, k ∈ h' ↔ k ∈ h ∧ k ≠ x) ∧ h'.Nodup := by
  have hc := nodup_cover h (x :: h') hn (fun k hk => by
    rcases hp.cover k hk with e | e
    · exact List.mem_cons.2 (.inl e)
    · exact List.mem_cons.2 (.inr e)) (by have := hp.len; simp; omega)
  have h1 := List.nodup_cons.1 hc.1
  refine ⟨fun k => ⟨fun hk => ⟨hp.sub k hk, fun e => h1.1 (e ▸ hk)⟩, fun hk => ?_⟩, h1.2⟩
  rcases hp.cover k hk.1 with e | e
  · exact absurd e hk.2
  · exact e
theorem SoW.order {W2 : World} {wb wc fc fb n : Nat} {w w1 : World} {ws : List Int} {yv : Value} {h : List Int} {ov ov' : Value} {out out' : List Nat} (H : SoW W2 wb wc fc fb n w ws yv h ov out) (o : Obj)
    (ho : w1.ownsRow W2.heap.size 3 1 ov' out'.length (ints (ofN out'))) (hg : (w.alloc o).grownBy w1 ov.ownBlock) (hm : Moved (w.alloc o) ov ov') : SoW W2 wb wc fc fb n w1 ws yv h ov' out' := by
  obtain ⟨o1, o2, o3, o4, o5, o6, o7⟩ := H.ord
  have hB : ∀ k, ov.ownBlock = some k → W2.heap.size ≤ k := fun k e => (H.ow.lt k e).1
  have hc : Ch w w1 (fun k => ov.ownBlock = some k) := ((Ch.refl w _).alloc o).grown hg fun k _ h => h
  refine ⟨H.ch.trans hc (fun k hk h => by have := hB k h; omega), hc.heap H.wbk (fun h => by have := hB wb h; omega), H.wl, ⟨hc.heap H.rdy.blk (fun h => by have := hB fb h; omega), H.rdy.at7, hc.own H.rdy.own (fun b hb h => H.dj b hb h), H.rdy.ne⟩, H.heap, ho, fun k hk => ?_, H.wck, H.fck, H.ord⟩
  have hlt := (H.rdy.own.lt k hk).2
  exact hm.ne (by simp; omega) (H.dj k hk)
/-- A row of places is no longer than there are places. -/
theorem places_len {n : Nat} {h : List Int} (hn : h.Nodup) (hm : ∀ x ∈ h, ∃ j : Nat, x = j ∧ j < n) : h.length ≤ n := by
  refine Classical.byContradiction fun hc => ?_
  cases h with
  | nil => simp at hc
  | cons x h =>
    rw [List.nodup_cons] at hn
    have hx := nodup_cover h ((List.range n).map fun (j : Nat) => (j : Int)) hn.2 (fun y hy => by
      obtain ⟨j, rfl, hj⟩ := hm y (by simp [hy])
      exact List.mem_map.2 ⟨j, List.mem_range.2 hj, rfl⟩) (by simp at hc ⊢; omega)
    obtain ⟨j, rfl, hj⟩ := hm x (by simp)
    exact hn.1 (hx.2 _ (List.mem_map.2 ⟨j, List.mem_range.2 hj, rfl⟩))
/-- Who is ready among the first k. -/
structure RdC (ws : List Int) (k : Nat) (h : List Int) : Prop where
  mem : ∀ x : Int, x ∈ h ↔ ∃ j : Nat, x = j ∧ j < k ∧ ws.getD j 0 = 0
  nodup : h.Nodup
theorem RdC.start (ws : List Int) : RdC ws 0 [] := ⟨fun x => by simp, List.nodup_nil⟩
theorem RdC.stay {ws : List Int} {k : Nat} {h : List Int} (H : RdC ws k h) (h0 : ws.getD k 0 ≠ 0) : RdC ws (k + 1) h := by
  refine ⟨fun x => ?_, H.nodup⟩
  rw [H.mem]
  constructor
  · rintro ⟨j, rfl, h1, h2⟩; exact ⟨j, rfl, by omega, h2⟩
  · rintro ⟨j, rfl, h1, h2⟩
    by_cases e : j = k
    · rw [e] at h2; exact absurd h2 h0
    · exact ⟨j, rfl, by omega, h2⟩
theorem RdC.push {ws : List Int} {k : Nat} {h h' : List Int} (H : RdC ws k h) (h0 : ws.getD k 0 = 0) (hm : ∀ x, x ∈ h' ↔ x ∈ h ∨ x = k) (hl : h'.length = h.length + 1) : RdC ws (k + 1) h' := by
  have hk : (k : Int) ∉ h := fun hc => by obtain ⟨j, e, hj, _⟩ := (H.mem _).1 hc; omega
  refine ⟨fun x => ?_, (nodup_cover ((k : Int) :: h) h' (List.nodup_cons.2 ⟨hk, H.nodup⟩) (fun x hx => (hm x).2 (by
    rcases List.mem_cons.1 hx with e | e
    · exact .inr e
    · exact .inl e)) (by simp; omega)).1⟩
  rw [hm, H.mem]
  constructor
  · rintro (⟨j, rfl, h1, h2⟩ | rfl)
    · exact ⟨j, rfl, by omega, h2⟩
    · exact ⟨k, rfl, by omega, h0⟩
  · rintro ⟨j, rfl, h1, h2⟩
    by_cases e : j = k
    · exact .inr (by omega)
    · exact .inl ⟨j, rfl, by omega, h2⟩
theorem RdC.len {ws : List Int} {k : Nat} {h : List Int} (H : RdC ws k h) : h.length ≤ k := places_len H.nodup fun x hx => by
  obtain ⟨j, e, h1, _⟩ := (H.mem x).1 hx; exact ⟨j, e, h1⟩
theorem wt_start {n : Nat} {E : Nat → List Nat} {ws h : List Int} (H : WsC n E n ws) (R : RdC ws n h) : Wt n E [] [] ws h := by
  refine ⟨H.len, fun j hj => ?_, fun x => ?_, R.nodup⟩
  · rw [H.at_ j hj, if_pos hj]
    unfold Drv.cntO
    rw [List.filter_eq_self.2 (by simp)]
    simp
  · rw [R.mem]
    constructor
    · rintro ⟨j, rfl, h1, h2⟩; exact ⟨j, rfl, h1, by simp, h2⟩
    · rintro ⟨j, rfl, h1, _, h2⟩; exact ⟨j, rfl, h1, h2⟩
theorem wt_len {n : Nat} {E : Nat → List Nat} {out rem : List Nat} {ws h : List Int} (H : Wt n E out rem ws h) : h.length ≤ n := places_len H.nodup fun x hx => by
  obtain ⟨j, e, h1, _⟩ := (H.mem x).1 hx; exact ⟨j, e, h1⟩
theorem UsC.users {n : Nat} {E : Nat → List Nat} {uss : List (List Nat)} (H : UsC n E n 0 uss) {q : Nat} (hq : q < n) : (∀ j, j < n → (uss.getD q []).count j = (E j).count q) ∧ (∀ j ∈ uss.getD q [], j < n) := by
  refine ⟨fun j hj => by rw [H.cnt q j hq, if_pos hj], fun j hj => ?_⟩
  have h1 : 0 < (uss.getD q []).count j := List.count_pos_iff.2 hj
  rw [H.cnt q j hq] at h1
  by_cases c : j < n
  · exact c
  · rw [if_neg c] at h1
    split at h1
    · simp at h1
    · omega
/-- Who needs each, read. -/
theorem UsW.read {W0 : World} {wb ub fb n : Nat} {w : World} {ws : List Int} {us : List Value} {uss : List (List Nat)} (H : UsW W0 wb ub n w ws us uss) (hn : n ≤ maxLen) (hf : fb < W0.heap.size) (hne : fb ≠ ub) : OutS IRow w (fun b => b ≠ wb ∧ b ≠ fb) (.slice (some ⟨ub, 0, none⟩) n n) (uss.map ofN) := by
  obtain ⟨o1, o2, o3⟩ := H.ord
  refine ⟨us, ⟨some ⟨ub, 0, none⟩, n, by rw [List.length_map, H.sl], by rw [List.length_map, H.sl]; exact Nat.le_refl _, hn, (fun e => by cases e), fun _ => ⟨_, rfl, block_lt H.ubk, ⟨fun e => o1 e.symm, fun e => hne e.symm⟩, fun j u hu => ?_⟩⟩, by rw [List.length_map, H.ul, H.sl], fun q u x hu hx => ?_⟩
  · have hadd : (⟨ub, 0, none⟩ : Addr).add j = ⟨ub, j, none⟩ := by unfold Addr.add; split <;> simp_all
    rw [hadd, blk_cell H.ubk j, List.getElem?_toArray]; exact hu
  · have hq : q < n := by
      rw [← H.ul]
      by_cases c : q < us.length
      · exact c
      · rw [List.getElem?_eq_none (by omega)] at hu; cases hu
    have e1 : us.getD q nilS = u := by simp [List.getD, hu]
    have e2 : ofN (uss.getD q []) = x := by
      rw [List.getElem?_map, List.getElem?_eq_getElem (by rw [H.sl]; exact hq)] at hx
      simp at hx
      rw [List.getD_eq_getElem?_getD, List.getElem?_eq_getElem (by rw [H.sl]; exact hq)]
      exact hx
    have h := RdS.weak (irow_own (H.rows q hq)) (S' := fun b => b ≠ wb ∧ b ≠ fb) fun b _ hb => ⟨by omega, by omega⟩
    rw [e1, e2] at h
    exact h
end Go.Proofs.YtbniilajffjfcaaGreatDoor
