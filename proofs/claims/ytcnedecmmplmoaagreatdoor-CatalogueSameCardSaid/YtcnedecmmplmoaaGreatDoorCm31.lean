/- catalogue: Parse. -/
import Derived.Test.YtcnedecmmplmoaaGreatDoorCm30
set_option linter.unusedVariables false
set_option linter.unusedSimpArgs false
namespace Go.Proofs.YtcnedecmmplmoaaGreatDoor
open Go Go.RowKit Go.BigFrame Go.Maps
open Ver (cmpV BL parts brk)
set_option maxRecDepth 100000
attribute [local go_sem] Oper.semAt_some

def CatP (s : ByteArray) (w : World) (e : Ending) (w' : World) : Prop := ∃ v, e = .returned (.tuple #[v, .int .i64 ((parseV s).1 : Int), .int .i64 (parseV s).2.1]) ∧ VasS w' (fun b => w.heap.size ≤ b) v (parseV s).2.2 ∧ ((parseV s).2.1 ≠ 0 → v = .slice none 0 0) ∧ Below w.heap.size w w'
theorem cat_results {w : World} {W : World} {A : Option Addr} {n c : Nat} {k z : Int} {t : Array Value} (h0 : W.heap[w.heap.size]? = some (.cells #[.slice A n c] 22 (0, 0))) (h1 : W.heap[w.heap.size + 1]? = some (.cells #[.int .i64 k] 3 (0, 0))) (h2 : W.heap[w.heap.size + 2]? = some (.cells #[.int .i64 z] 25 (0, 0)))
    (ht2 : t.getD 2 undef = .pointer (some ⟨w.heap.size, 0, none⟩)) (ht3 : t.getD 3 undef = .pointer (some ⟨w.heap.size + 1, 0, none⟩)) (ht4 : t.getD 4 undef = .pointer (some ⟨w.heap.size + 2, 0, none⟩)) : (results Tryz.f16 t).run Tryz.prog W = .ok (.tuple #[.slice A n c, .int .i64 k, .int .i64 z]) W := by
  have hp' : t[2]?.getD undef = .pointer (some ⟨w.heap.size, 0, none⟩) := by simpa using ht2
  have hp3' : t[3]?.getD undef = .pointer (some ⟨w.heap.size + 1, 0, none⟩) := by simpa using ht3
  have hp4' : t[4]?.getD undef = .pointer (some ⟨w.heap.size + 2, 0, none⟩) := by simpa using ht4
  have hl : (loadVar 22 ⟨w.heap.size, 0, none⟩).run Tryz.prog W = .ok (.slice A n c) W := by simp [(box_one h0).1, go_sem]
  have hl2 : (loadVar 3 ⟨w.heap.size + 1, 0, none⟩).run Tryz.prog W = .ok (.int .i64 k) W := by simp [(box_one h1).1, go_sem]
  have hl3 : (loadVar 25 ⟨w.heap.size + 2, 0, none⟩).run Tryz.prog W = .ok (.int .i64 z) W := by simp [(box_one h2).1, go_sem]
  simp [results, Tryz.results16, hp', hp3', hp4', asAddr, hl, hl2, hl3]
theorem rows3c (w : World) (a b c : Obj) : ∃ W, W = ((w.alloc a).alloc b).alloc c ∧ W.heap[w.heap.size]? = some a ∧ W.heap[w.heap.size + 1]? = some b ∧ W.heap[w.heap.size + 2]? = some c ∧ Below w.heap.size w W ∧ W.heap.size = w.heap.size + 3 := by
  have h1 := heap_alloc_new w a
  have h2 := heap_alloc_new (w.alloc a) b
  have h3 := heap_alloc_new ((w.alloc a).alloc b) c
  simp only [World.size_alloc] at h2 h3
  refine ⟨_, rfl, ?_, ?_, h3, ((Below.refl _ _).alloc (Nat.le_refl _) _).alloc (by simp) _ |>.alloc (by simp <;> omega) _, by simp⟩
  · exact (old_block _ _ _ (by simp <;> omega)).trans ((old_block _ _ _ (by simp)).trans h1)
  · exact (old_block _ _ _ (by simp)).trans h2
theorem cat_start (s : ByteArray) (w W5 wk : World) (hW : W5 = (((((w.alloc (.cells #[.slice none 0 0] 22)).alloc (.cells #[.int .i64 0] 3)).alloc (.cells #[.int .i64 0] 25)).alloc (.map #[] 0)).alloc (.cells #[.slice none 0 0, .map (some (w.heap.size + 1 + 1 + 1)), .slice none 0 0] 78)))
    (hk : KindsAt wk (w.heap.size + 5) (w.heap.size + 4)) (hb : Below W5.heap.size W5 wk) :
    ∃ W2, W2 = ((wk.alloc (.cells #[.map (some (w.heap.size + 1 + 1 + 1 + 1 + 1))] 79)).alloc (.cells #[.int .i64 0] 3)).alloc (.cells #[.string s] 9) ∧ w.heap.size + 6 ≤ wk.heap.size ∧ PrI w wk.heap.size [] W2 ∧ W2.heap[wk.heap.size + 2]? = some (.cells #[.string s] 9 (0, 0)) ∧ W2.heap.size = wk.heap.size + 3 := by
  obtain ⟨W3, e3, a0, a1, a2, ab, az⟩ := rows3c w (.cells #[.slice none 0 0] 22) (.cells #[.int .i64 0] 3) (.cells #[.int .i64 0] 25)
  rw [← e3] at hW
  have hm := SeenP.made W3
  rw [az] at hm
  have hz4 : (W3.alloc (.map #[] 0)).heap.size = w.heap.size + 4 := by rw [World.size_alloc, az]
  have hrb := heap_alloc_new (W3.alloc (.map #[] 0)) (.cells #[.slice none 0 0, .map (some (w.heap.size + 1 + 1 + 1)), .slice none 0 0] 78)
  rw [hz4, ← hW] at hrb
  have hz5 : W5.heap.size = w.heap.size + 5 := by rw [hW, World.size_alloc, hz4]
  have hs5 : SeenP W5 (w.heap.size + 3) [] := by
    rw [hW]
    exact hm.kept (World.grownBy_alloc _ _ none) (by simp)
  have hb35 : Below W3.heap.size W3 W5 := by rw [hW]; exact ((Below.refl _ _).alloc (Nat.le_refl _) _).alloc (by simp) _
  have h5 : Below w.heap.size w W5 := below_step ab hb35 ab.size
  obtain ⟨W2, e2, b0, b1, b2, bb, bz⟩ := rows3c wk (.cells #[.map (some (w.heap.size + 1 + 1 + 1 + 1 + 1))] 79) (.cells #[.int .i64 0] 3) (.cells #[.string s] 9)
  have hkl := hk.lt
  refine ⟨W2, e2, by omega, ⟨⟨([], ⟨#[]⟩), rfl, Nat.zero_le _, ?_⟩, below_step (below_step h5 hb h5.size) bb (Nat.le_trans h5.size hb.size)⟩, b2, bz⟩
  have k3 : ∀ {b : Nat} {o : Obj}, W3.heap[b]? = some o → W2.heap[b]? = some o := fun {b o} ho => by
    have h1 := (hb35.block b (block_lt ho)).trans ho
    have h2 := (hb.block b (block_lt h1)).trans h1
    exact (bb.block b (block_lt h2)).trans h2
  have k5 : ∀ b, b < W5.heap.size → W2.heap[b]? = W5.heap[b]? := fun b hb5 => (bb.block b (Nat.lt_of_lt_of_le hb5 hb.size)).trans (hb.block b hb5)
  have hs2 : SeenP W2 (w.heap.size + 3) [] := hs5.block (k5 _ (by omega))
  refine ⟨k3 a0, k3 a1, k3 a2, b0, b1, hk.ch (Ch.of_below bb (fun b => wk.heap.size ≤ b) (fun k _ h => h)) (by omega), fun b => if b = w.heap.size + 4 then 1 else if b = w.heap.size + 3 then 2 else 0, .slice none 0 0, .slice none 0 0, [], ?_, hs2, fun b h1 h2 => by dsimp only; rw [if_neg (by omega), if_neg (by omega)]⟩
  refine ⟨(k5 _ (by omega)).trans hrb, if_pos rfl, by rw [if_neg (by omega), if_pos rfl], fun b hb => ?_, LstAt.nil _ _ _, World.ownsRow_nil _ _ _ _, (fun g hg => by cases hg), ⟨[], hs2⟩, by simp, fun x hx => by simp at hx⟩
  by_cases h1 : b = w.heap.size + 4
  · omega
  · rw [if_neg h1] at hb
    by_cases h2 : b = w.heap.size + 3
    · omega
    · rw [if_neg h2] at hb; exact absurd rfl hb
theorem RdS.own' {w : World} {base n sz : Nat} {e : TypeId} {v : Value} {xs : List Value} {S : Nat → Prop} (h : w.ownsRow base e sz v n xs) (hS : ∀ g, v.ownBlock = some g → S g) : RdS w S v n xs := by
  obtain ⟨A, cap, e, h1, h2, h3, h4⟩ := RdS.own h
  subst e
  refine ⟨A, cap, rfl, h1, h2, h3, fun hn => ?_⟩
  obtain ⟨ad, rfl, hb, _, hc⟩ := h4 hn
  exact ⟨ad, rfl, hb, hS _ rfl, hc⟩
theorem NAt.rdr {w : World} {base q : Nat} {ro : Nat → Nat} {u : Value} {l : List Nde} (h : NAt w base ro q u l) (hq : q ≠ 0) : NdsS w (Rdr ro) u l := by
  obtain ⟨vs, h1, h2, h3⟩ := h
  exact ⟨vs, RdS.own' h1 (fun g hg => by unfold Rdr; rw [h2 g hg]; exact hq), h3.weak NdC.keeps fun b _ hS => by unfold Rdr; rw [hS]; decide⟩
theorem eqNilC (W : World) : Sem.run Tryz.prog (binOp .eql 86 .nilFunc .nilFunc) W = .ok (.bool true) W := by kernel_rfl
theorem eqFnC (n rb : Nat) (W : World) : Sem.run Tryz.prog (binOp .eql 86 (.func (.func n) #[.pointer (some ⟨rb, 0, none⟩)] #[]) .nilFunc) W = .ok (.bool false) W := by kernel_rfl
theorem LstAt.vas {w : World} {base : Nat} {ro : Nat → Nat} {v : Value} {cs : List Value} {l : List Va} (h : LstAt w base ro v cs l) : VasS w (Rdr ro) v l := by
  refine ⟨cs, RdS.own' h.own (fun g hg => by unfold Rdr; rw [h.role g hg]; decide), h.own.1, fun k x hx => ?_⟩
  obtain ⟨un, uc, e, h1, h2⟩ := h.item k x hx
  exact ⟨un, uc, e, NAt.rdr h1 (by unfold qN; split <;> decide), NAt.rdr h2 (by unfold qC; split <;> decide)⟩
theorem len_sum (l : List ByteArray) : l.length ≤ sumL l := by
  induction l with
  | nil => exact Nat.zero_le _
  | cons x r ih => rw [sumL_cons, List.length_cons]; omega
theorem PrI.skip {w W : World} {q : Nat} {pre : List ByteArray} {x : ByteArray} {st : RSt} (hst : stAt pre = some st) (hss : st.2.size ≤ sumL pre) (hJ : PrJ w.heap.size q (pre.length + 1) st W) (hb : Below w.heap.size w W) (hsk : skipB x = true) : PrI w q (pre ++ [x]) W := by
  refine ⟨⟨st, ?_, by rw [sumL_app]; omega, by rw [List.length_append]; exact hJ⟩, hb⟩
  rw [stAt_snoc, hst]
  show (if skipB x = true then some st else _) = _
  rw [if_pos hsk]
theorem PrI.right {w W : World} {q : Nat} {pre : List ByteArray} {x : ByteArray} {st : RSt} (hst : stAt pre = some st) (hss : st.2.size ≤ sumL pre) (hJ : PrJ w.heap.size q (pre.length + 1) (stepN st x) W) (hb : Below w.heap.size w W) (hsk : skipB x = false) (he : stepE st x = 0) : PrI w q (pre ++ [x]) W := by
  refine ⟨⟨stepN st x, ?_, ?_, by rw [List.length_append]; exact hJ⟩, hb⟩
  · rw [stAt_snoc, hst]
    show (if skipB x = true then some st else if stepE st x = 0 then some (stepN st x) else none) = _
    rw [if_neg (by rw [hsk]; decide), if_pos he]
  · have := stepN_size st x
    rw [sumL_app, sumL_cons]
    omega
theorem PrX.wrong {s : ByteArray} {pre : List ByteArray} {x : ByteArray} {st : RSt} (hpv : parseV s = runS (lnsB s) 0 ([], ⟨#[]⟩)) (hpf : pre ++ [x] <+: lnsB s) (hst : stAt pre = some st) (hsk : skipB x = false) (he : stepE st x ≠ 0) : parseV s = (pre.length + 1, stepE st x, []) := by
  obtain ⟨r, hr⟩ := hpf
  rw [hpv, ← hr, List.append_assoc]
  have := runS_stop (rest := r) hsk he pre ([], ⟨#[]⟩) 0 hst
  rw [Nat.zero_add] at this
  exact this
theorem PrX.made {w W1 : World} {q k : Nat} {st : RSt} (hJ : PrJ w.heap.size q k st W1) (hb : Below w.heap.size w W1) (nq : Nat) (z : Int) : PrX w k z ((((W1.drewN nq).setCell ⟨w.heap.size, 0, none⟩ (.slice none 0 0)).setCell ⟨w.heap.size + 1, 0, none⟩ (.int .i64 (k : Int))).setCell ⟨w.heap.size + 1 + 1, 0, none⟩ (.int .i64 z)) := by
  have b0 : (W1.drewN nq).heap[w.heap.size]? = some (.cells #[.slice none 0 0] 22 (0, 0)) := by rw [heap_drewN]; exact hJ.r0
  have b1 : (W1.drewN nq).heap[w.heap.size + 1]? = some (.cells #[.int .i64 0] 3 (0, 0)) := by rw [heap_drewN]; exact hJ.r1
  have b2 : (W1.drewN nq).heap[w.heap.size + 2]? = some (.cells #[.int .i64 0] 25 (0, 0)) := by rw [heap_drewN]; exact hJ.r2
  have b1' : ((W1.drewN nq).setCell ⟨w.heap.size, 0, none⟩ (.slice none 0 0)).heap[w.heap.size + 1]? = some (.cells #[.int .i64 0] 3 (0, 0)) := (Below.heap_setCell _ _ _ _ (show w.heap.size + 1 ≠ w.heap.size by omega)).trans b1
  have b2' : (((W1.drewN nq).setCell ⟨w.heap.size, 0, none⟩ (.slice none 0 0)).setCell ⟨w.heap.size + 1, 0, none⟩ (.int .i64 (k : Int))).heap[w.heap.size + 2]? = some (.cells #[.int .i64 0] 25 (0, 0)) := (Below.heap_setCell _ _ _ _ (show w.heap.size + 2 ≠ w.heap.size + 1 by omega)).trans ((Below.heap_setCell _ _ _ _ (show w.heap.size + 2 ≠ w.heap.size by omega)).trans b2)
  exact ⟨(Below.heap_setCell _ _ _ _ (show w.heap.size ≠ w.heap.size + 1 + 1 by omega)).trans ((Below.heap_setCell _ _ _ _ (show w.heap.size ≠ w.heap.size + 1 by omega)).trans (box_put b0 _)), (Below.heap_setCell _ _ _ _ (show w.heap.size + 1 ≠ w.heap.size + 1 + 1 by omega)).trans (box_put b1' _), box_put b2' _,
    (((below_drewN hb nq).setCell (show w.heap.size ≤ w.heap.size by omega) _).setCell (show w.heap.size ≤ w.heap.size + 1 by omega) _).setCell (show w.heap.size ≤ w.heap.size + 1 + 1 by omega) _⟩
theorem PrX.made3 {w W1 : World} {k : Nat} (b0 : W1.heap[w.heap.size]? = some (.cells #[.slice none 0 0] 22 (0, 0))) (b1 : W1.heap[w.heap.size + 1]? = some (.cells #[.int .i64 0] 3 (0, 0))) (b2 : W1.heap[w.heap.size + 2]? = some (.cells #[.int .i64 0] 25 (0, 0))) (hb : Below w.heap.size w W1) (z : Int) : PrX w k z (((W1.setCell ⟨w.heap.size, 0, none⟩ (.slice none 0 0)).setCell ⟨w.heap.size + 1, 0, none⟩ (.int .i64 (k : Int))).setCell ⟨w.heap.size + 1 + 1, 0, none⟩ (.int .i64 z)) := by
  have b1' : (W1.setCell ⟨w.heap.size, 0, none⟩ (.slice none 0 0)).heap[w.heap.size + 1]? = some (.cells #[.int .i64 0] 3 (0, 0)) := (Below.heap_setCell _ _ _ _ (show w.heap.size + 1 ≠ w.heap.size by omega)).trans b1
  have b2' : ((W1.setCell ⟨w.heap.size, 0, none⟩ (.slice none 0 0)).setCell ⟨w.heap.size + 1, 0, none⟩ (.int .i64 (k : Int))).heap[w.heap.size + 2]? = some (.cells #[.int .i64 0] 25 (0, 0)) := (Below.heap_setCell _ _ _ _ (show w.heap.size + 2 ≠ w.heap.size + 1 by omega)).trans ((Below.heap_setCell _ _ _ _ (show w.heap.size + 2 ≠ w.heap.size by omega)).trans b2)
  exact ⟨(Below.heap_setCell _ _ _ _ (show w.heap.size ≠ w.heap.size + 1 + 1 by omega)).trans ((Below.heap_setCell _ _ _ _ (show w.heap.size ≠ w.heap.size + 1 by omega)).trans (box_put b0 _)), (Below.heap_setCell _ _ _ _ (show w.heap.size + 1 ≠ w.heap.size + 1 + 1 by omega)).trans (box_put b1' _), box_put b2' _,
    ((hb.setCell (show w.heap.size ≤ w.heap.size by omega) _).setCell (show w.heap.size ≤ w.heap.size + 1 by omega) _).setCell (show w.heap.size ≤ w.heap.size + 1 + 1 by omega) _⟩
/-- The boxes behind a method. -/
theorem PrJ.after {g q k : Nat} {st : RSt} {W W4 : World} {nq : Nat} {ro : Nat → Nat} {vl vr : Value} {cs : List Value} (h : PrJ g q k st W) (hc : Ch (W.drewN nq) W4 (Rdr ro)) (hr : RdAt W (g + 3) (g + 4) (g + 3) ro vl vr cs st) (h0 : ∀ b, g + 5 ≤ b → b ≤ q + 4 → ro b = 0) (hq : g + 6 ≤ q) :
    W4.heap[g]? = some (.cells #[.slice none 0 0] 22 (0, 0)) ∧ W4.heap[g + 1]? = some (.cells #[.int .i64 0] 3 (0, 0)) ∧ W4.heap[g + 2]? = some (.cells #[.int .i64 0] 25 (0, 0)) ∧ W4.heap[q + 1]? = some (.cells #[.int .i64 (k : Int)] 3 (0, 0)) := by
  have hlow : ∀ b, b < g + 3 → ro b = 0 := fun b hb => Decidable.byContradiction fun hn => by have := (hr.all b hn).1; omega
  have hb : ∀ {b : Nat} {o : Obj}, ro b = 0 → W.heap[b]? = some o → W4.heap[b]? = some o := fun hb2 ho => hc.heap (by rw [heap_drewN]; exact ho) fun hm => hm hb2
  exact ⟨hb (hlow _ (by omega)) h.r0, hb (hlow _ (by omega)) h.r1, hb (hlow _ (by omega)) h.r2, hb (h0 _ (by omega) (by omega)) h.num⟩
theorem KeepsFrom.of_ch2 {w w' : World} {D mb nq : Nat} {ro : Nat → Nat} (hc : Ch (w.drewN nq) w' (Rdr (roC w mb ro))) (hmb : mb < D) : KeepsFrom D (w.drewN nq) w' := by
  refine ⟨hc.size, fun k o hk ho hno => hc.heap ho fun hm => ?_⟩
  rw [heap_drewN] at ho
  rcases (roC_ne hm).1 with e | ⟨o', h1, h2⟩
  · omega
  · rw [ho] at h1; cases h1; rw [hno] at h2; cases h2
theorem PrJ.next2 {g q k : Nat} {st st' : RSt} {W W' : World} {nq : Nat} {ro : Nat → Nat} {vl vr : Value} {cs : List Value} {e : Ending} {z : Int} (h : PrJ g q k st W) (hq : g + 6 ≤ q) (hl : q + 4 < W.heap.size) (hr : RdAt W (g + 3) (g + 4) (g + 3) ro vl vr cs st) (hs : SeenP W (g + 3) st.1) (h0 : ∀ b, g + 5 ≤ b → b ≤ q + 4 → ro b = 0)
    (hm : MPost (W.drewN nq) (g + 3) (g + 4) (g + 3) ro st.1 z st' e W') (hz : z = 0) : PrJ g q k st' W' := by
  subst hz
  have hc : Ch W (W.drewN nq) (fun _ => False) := (Ch.refl W (fun _ => False)).drewN nq
  exact PrJ.next (h.ch hq hc (fun b _ h => h.elim)) hq (by rw [heap_drewN]; exact hl) (hr.ch hc (fun _ h => h.elim)) (hs.block (by rw [heap_drewN])) h0 hm
theorem keeps_drew (D : Nat) (W : World) : KeepsFrom D W W.drew := ⟨Nat.le_refl _, fun k o _ h _ => h⟩
theorem PrX.drew {w W : World} {k : Nat} {z : Int} (h : PrX w k z W) : PrX w k z W.drew := ⟨h.r0, h.r1, h.r2, h.below.drew⟩
theorem keeps_drewN (D : Nat) (W : World) (nq : Nat) : KeepsFrom D W (W.drewN nq) := ⟨by rw [heap_drewN]; exact Nat.le_refl _, fun k o _ h _ => by rw [heap_drewN]; exact h⟩
theorem fnV_inj {n n' rb : Nat} (h : fnV n rb = fnV n' rb) : n = n' := by
  unfold fnV at h
  simpa using h
theorem fnCall {v : Value} {n rb : Nat} {Z : Prop} {p : Nat → Prop} {C : Nat → Prop} (hk : v = fnV n rb) (h : (v = .nilFunc ∧ Z) ∨ ∃ n', p n' ∧ v = fnV n' rb ∧ C n') : C n := by
  rcases h with ⟨h, _⟩ | ⟨n', _, h, hc⟩
  · rw [hk] at h
    exact absurd h (by unfold fnV; simp)
  · rw [hk] at h
    rw [fnV_inj h]; exact hc
set_option maxRecDepth 100000 in
set_option maxHeartbeats 4000000 in
theorem catParse_any (s : ByteArray) (w : World) (hs : s.size ≤ maxLen) : CallsIn Fence.wide 8 Tryz.prog 16 #[.string s] w (CatP s w) := by
  have hro : Fence.wide.round = none := rfl
  have HS := Lib.hid hs
  have hmm := @run_makeMap Tryz.prog
  refine callsIn_of_wpF Tryz.func16 rfl trivial ?_ hro
  simp only [Tryz.ntmps16, List.size_toArray, List.length_cons, List.length_nil, Nat.reduceAdd, Nat.reduceSub, Array.replicate_succ, Array.replicate_zero, List.push_toArray, List.append_toArray, List.nil_append, List.cons_append]
  refine wpF_seq_in fun K hK => ?_
  gi_wp2
  refine wpF_seq_in fun K hK => ?_
  gi_wp2
  · rename_i hbig
    obtain ⟨W3, e3, a0, a1, a2, ab, az⟩ := rows3c w (.cells #[.slice none 0 0] 22) (.cells #[.int .i64 0] 3) (.cells #[.int .i64 3] 25)
    rw [← e3]
    have hp : parseV s = (0, 3, []) := by unfold parseV; rw [if_pos (by omega)]
    refine ⟨_, cat_results a0 a1 a2 rfl rfl rfl, ?_⟩
    unfold CatP
    rw [hp]
    exact ⟨_, rfl, OutM.nil _ _, fun _ => rfl, ab⟩
  rename_i hsmall
  have hpv : parseV s = runS (lnsB s) 0 ([], ⟨#[]⟩) := by unfold parseV; rw [if_neg (by omega)]
  refine wpF_seq_in fun K hK => ?_
  gi_wp2
  refine wpF_seq_in fun K hK => ?_
  gi_wp2_with (refine ⟨trivial, ((callsIn_wide (n := 7)).2 (kinds_any _ _)).mono ?_⟩; rintro e wk ⟨rfl, hkk, hbk⟩)
  refine wpF_seq_in fun K hK => ?_
  gi_wp2
  refine wpF_seq ?_
  refine wpF_seq_in fun K hK => ?_
  gi_wp2_with (refine ⟨trivial, ((callsIn_wide (n := 7)).2 (lines_any s _)).mono ?_⟩; rintro e W ⟨rfl, rfl⟩)
  refine wpF_block ?_
  obtain ⟨W2, hW2, hq6, hI0, hbx, hz2⟩ := cat_start s w _ wk rfl (by simpa using hkk) hbk
  rw [← hW2]
  clear hW2 hkk hbk
  generalize wk.heap.size = q at *
  have HSZ := Lib.hid (fun pre (h : pre <+: lnsB s) => Nat.le_trans (sum_prefix h) (lnsB_sum s))
  refine wpF_rangeFunc_ownB (bn := q + 2) (by omega) hro (by omega) ⟨_, rfl⟩ (g := .tmp 22) rfl trivial (fun _ _ => rfl) (lines_stops 7 (by omega) W2 (q + 2) s HS.out hbx) (fun h k => h.trans k) ?kb (Below.refl _ _) (fun _ => rfl)
    (PrI w q) (fun c _ W => c = .ret ∧ ∃ k z, (parseV s = (k, z, []) ∧ z ≠ 0) ∧ PrX w k z W) (PrI.own hq6 rfl hz2) (fun c => PrX.own hq6 rfl hz2 (fun k z => parseV s = (k, z, []) ∧ z ≠ 0) c) hI0
    (fun x a' _ => a' = { tmps := #[.string s, undef, .pointer (some ⟨w.heap.size, 0, none⟩), .pointer (some ⟨w.heap.size + 1, 0, none⟩), .pointer (some ⟨w.heap.size + 1 + 1, 0, none⟩), .pointer (some ⟨w.heap.size + 1 + 1 + 1 + 1, 0, none⟩), .pointer (some ⟨q, 0, none⟩), .pointer (some ⟨q + 1, 0, none⟩), .string x, undef, undef, undef, undef, .string s, .int .i64 (s.size : Int), .bool (decide ((262144 : Int) < (s.size : Int))), .map (some (w.heap.size + 1 + 1 + 1)), .agg #[.slice none 0 0, .map (some (w.heap.size + 1 + 1 + 1)), .slice none 0 0], .pointer (some ⟨w.heap.size + 1 + 1 + 1 + 1, 0, none⟩), .pointer (some ⟨w.heap.size + 1 + 1 + 1 + 1, 0, none⟩), .map (some (w.heap.size + 1 + 1 + 1 + 1 + 1)), .string s, .func (.func 75) #[] #[.pointer (some ⟨q + 1 + 1, 0, none⟩)], .string x, undef, undef, undef, undef, undef, undef, undef, undef, undef, undef, undef, undef, undef, undef, undef, undef, undef, undef, undef, undef, undef, undef, undef, undef, undef, undef, undef, undef, undef, undef, undef, undef, undef], defers := [] }) (fun x a' s A C row h _ _ => h) ?assign ?body ?done ?stop
  case kb =>
    intro W l o o' hl hk ho _
    exact (grownBy_putObj' W l o').block _ (by have := block_lt hk; omega) (fun e => by cases e; omega)
  case assign =>
    intro l pre x W K hsz hI hK
    gi_wp2
    exact hK _ _ (KeepsFrom.refl _ _) rfl hI rfl
  case body =>
    rintro l pre x a' W hsz hI rfl hlen hpf
    obtain ⟨st, hst, hss, hJ⟩ := hI.st
    have hsum := HSZ.out _ hpf
    have hpl := len_sum pre
    have hxs : sumL (pre ++ [x]) = sumL pre + (x.size + 1) := by rw [sumL_app, sumL_cons]; rfl
    have hadd : IntKind.i64.wrap ((pre.length : Int) + 1) = ((pre.length + 1 : Nat) : Int) := by rw [IntWalk.i64_in _ (by omega)]; omega
    have hJ1 : PrJ w.heap.size q (pre.length + 1) st (W.setCell ⟨q + 1, 0, none⟩ (.int .i64 ((pre.length + 1 : Nat) : Int))) := hJ.step hq6
    rw [show ((pre.length + 1 : Nat) : Int) = (pre.length : Int) + 1 from rfl] at hJ1
    obtain ⟨q1, f1⟩ := box_one hJ.num
    have hbl1 : Below w.heap.size w (W.setCell ⟨q + 1, 0, none⟩ (.int .i64 ((pre.length : Int) + 1))) := hI.below.setCell (show w.heap.size ≤ q + 1 by omega) _
    have HB1 := Lib.hid hbl1
    clear hbl1
    have HJ := Lib.hid (And.intro hJ1 (And.intro hI.below (And.intro hst (And.intro hss hpf))))
    have HN := Lib.hid (And.intro hxs (And.intro hsum hpl))
    have hqW : w.heap.size + 6 ≤ q := hq6
    have HZ := Lib.hid hsz
    have HPV := Lib.hid hpv
    clear hJ hJ1 hI hst hss hpf hxs hsum hpl hlen hpv
    by_cases hx0 : x.size = 0
    · obtain rfl : x = ⟨#[]⟩ := by
        apply str_ext
        exact List.length_eq_zero_iff.1 (by rw [len_data]; exact hx0)
      clear hx0
      gi_wp2
      exact ⟨(KeepsOthers.setCell _ _ _).from _, Below.heap_setCell _ _ _ _ (show q + 2 ≠ q + 1 by omega), PrI.skip HJ.out.2.2.1 HJ.out.2.2.2.1 HJ.out.1 HB1.out rfl⟩
    · obtain ⟨c, r, hx⟩ : ∃ c r, x.data.toList = c :: r := List.exists_cons_of_ne_nil (fun e => hx0 (by rw [← len_data, e]; rfl))
      have hsk : skipB x = decide (c = 35) := by unfold skipB; rw [hx, decide_eq_false hx0]; simp
      have hxe : x.toList.isEmpty = false := (empty_no x hx0).2.1
      have hp : 0 < x.size := by omega
      have hg : x[0] = c := by
        show x.data[0]'hp = c
        have h2 : x.data.toList[0]? = some c := by rw [hx]; rfl
        rw [Array.getElem?_toList] at h2
        exact (Array.getElem?_eq_some_iff.1 h2).2
      by_cases hc : c = 35
      · have h35 : ((x[0].toNat : Int) == 35) = true := by rw [hg, hc]; rfl
        have HSK := Lib.hid (show skipB x = true by rw [hsk, decide_eq_true hc])
        clear hsk hc hx hg
        gi_wp2
        exact ⟨(KeepsOthers.setCell _ _ _).from _, Below.heap_setCell _ _ _ _ (show q + 2 ≠ q + 1 by omega), PrI.skip HJ.out.2.2.1 HJ.out.2.2.2.1 HJ.out.1 HB1.out HSK.out⟩
      · have HSK := Lib.hid (show skipB x = false by rw [hsk, decide_eq_false hc])
        have hwm : (word1 x).size ≤ maxLen := by
          have := bA_le 32 x
          have := HN.out
          unfold word1
          split
          · decide
          · unfold maxLen; omega
        have HX := Lib.hid (show x.size ≤ maxLen by have := HN.out; unfold maxLen; omega)
        obtain ⟨ro0, vl, vr, cs, hr, hsn, h0⟩ := HJ.out.1.open
        have HLK := Lib.hid (fun nq => kinds_look (HJ.out.1.kin.ch ((Ch.refl (W.setCell ⟨q + 1, 0, none⟩ (.int .i64 ((pre.length : Int) + 1))) (fun _ => False)).drewN nq) (fun h => h)) (word1 x) hwm)
        have HST := Lib.hid (fun nq => step_any ((W.setCell ⟨q + 1, 0, none⟩ (.int .i64 ((pre.length : Int) + 1))).drewN nq) _ _ _ _ _ _ _ _ (hr.ch ((Ch.refl _ (fun _ => False)).drewN nq) (fun _ h => h.elim)) (hsn.block (by rw [heap_drewN])) (by rw [heap_drewN]; simp; omega) x (by have := HN.out; omega) (by have := HN.out; have := HJ.out.2.2.2.1; omega))
        have HBX := Lib.hid (fun nq => (show ((W.setCell ⟨q + 1, 0, none⟩ (.int .i64 ((pre.length : Int) + 1))).drewN nq).heap[q]? = some (.cells #[.map (some (w.heap.size + 5))] 79 (0, 0)) by rw [heap_drewN]; exact HJ.out.1.kbx))
        have HRO := Lib.hid (And.intro hr (And.intro hsn h0))
        have h35 : ((x[0].toNat : Int) == 35) = false := by
          rw [hg, beq_eq_false_iff_ne]
          intro e
          exact hc (UInt8.toNat_inj.1 (by have : c.toNat = 35 := by omega
                                          rw [this]; rfl))
        clear hsk hr hsn h0 hwm hg hc hx
        rcases HST.out 0 with ⟨hk, he⟩ | ⟨n, hn, hk, _⟩
        · have HL0 := Lib.hid (fun nq => by have h := HLK.out nq; rw [hk] at h; exact h)
          have HE := Lib.hid he
          clear he hk
          gi_wp2_with (refine ⟨trivial, (((callsIn_wide (n := 5)).2 (first_any x _ HX.out)).inRound l).mono ?_⟩; rintro e W3 ⟨rfl, nq, rfl⟩; obtain ⟨qk, fk⟩ := box_one (HBX.out nq); have hlk := HL0.out nq; have hen := eqNilC; (have b0 := (show ((W.setCell ⟨q + 1, 0, none⟩ (.int .i64 ((pre.length : Int) + 1))).drewN nq).heap[w.heap.size]? = some (.cells #[.slice none 0 0] 22 (0, 0)) by rw [heap_drewN]; exact HJ.out.1.r0)); (have b1 := (show ((W.setCell ⟨q + 1, 0, none⟩ (.int .i64 ((pre.length : Int) + 1))).drewN nq).heap[w.heap.size + 1]? = some (.cells #[.int .i64 0] 3 (0, 0)) by rw [heap_drewN]; exact HJ.out.1.r1)); (have b2 := (show ((W.setCell ⟨q + 1, 0, none⟩ (.int .i64 ((pre.length : Int) + 1))).drewN nq).heap[w.heap.size + 2]? = some (.cells #[.int .i64 0] 25 (0, 0)) by rw [heap_drewN]; exact HJ.out.1.r2)); (have b3 := (show ((W.setCell ⟨q + 1, 0, none⟩ (.int .i64 ((pre.length : Int) + 1))).drewN nq).heap[q + 1]? = some (.cells #[.int .i64 ((pre.length : Int) + 1)] 3 (0, 0)) by rw [heap_drewN]; exact HJ.out.1.num)); (obtain ⟨z0, y0⟩ := box_one b0); (obtain ⟨z1, y1⟩ := box_one b1); (obtain ⟨z2, y2⟩ := box_one b2); (obtain ⟨z3, y3⟩ := box_one b3))
          have HLW := Lib.hid (And.intro b0 (And.intro b1 (And.intro b2 b3)))
          clear b0 b1 b2 b3
          clear z0 y0 z1 y1 z2 y2 z3 y3 qk fk hlk
          generalize hW1 : W.setCell ⟨q + 1, 0, none⟩ (.int .i64 ((pre.length : Int) + 1)) = W1 at *
          clear q1 f1
          obtain ⟨z0, y0⟩ := box_one HJ.out.1.r0
          obtain ⟨z1, y1⟩ := box_one HJ.out.1.r1
          obtain ⟨z2, y2⟩ := box_one HJ.out.1.r2
          obtain ⟨z3, y3⟩ := box_one HJ.out.1.num
          have hkf : KeepsFrom W2.heap.size W W1 := by rw [← hW1]; exact (KeepsOthers.setCell _ _ _).from _
          gi_region
          all_goals
            gi_wp2
            refine ⟨(((hkf.trans (keeps_drewN _ _ _)).trans ((KeepsOthers.setCell _ _ _).from _)).trans ((KeepsOthers.setCell _ _ _).from _)).trans ((KeepsOthers.setCell _ _ _).from _), rfl, _, _, ⟨PrX.wrong HPV.out HJ.out.2.2.2.2 HJ.out.2.2.1 HSK.out (by rw [HE.out]; decide), by rw [HE.out]; decide⟩, ?_⟩
            rw [HE.out]
            exact PrX.made HJ.out.1 HB1.out _ _
        · have HHK := Lib.hid (fun nq => by
            exact fnCall hk (HST.out nq))
          have HL0 := Lib.hid (fun nq => by have h := HLK.out nq; rw [hk] at h; unfold fnV at h; exact h)
          clear hk
          rcases hn with rfl | rfl | rfl | rfl
          all_goals
            gi_wp2_with (first
              | (refine ⟨trivial, (((callsIn_wide (n := 5)).2 (first_any x _ HX.out)).inRound l).mono ?_⟩; rintro e W3 ⟨rfl, nq, rfl⟩; obtain ⟨qk, fk⟩ := box_one (HBX.out nq); have hlk := HL0.out nq; have hen := eqFnC)
              | (refine ⟨trivial, (((callsIn_wide (n := 5)).2 (HHK.out nq)).inRound l).mono ?_⟩; rintro e W4 ⟨rfl, hch, hmp⟩))
          all_goals
            first
              | (have hne : stepE st x = 0 := by
                   rename_i h9
                   have := h9
                   simpa using this
                 refine ⟨((((KeepsOthers.setCell _ _ _).from _).trans (keeps_drewN _ _ _)).trans (KeepsFrom.of_ch2 hch (by omega))), ?_, PrI.right HJ.out.2.2.1 HJ.out.2.2.2.1 (HJ.out.1.next2 hqW (by simp; omega) HRO.out.1 HRO.out.2.1 HRO.out.2.2 ⟨rfl, hch, hmp⟩ hne) ?_ HSK.out hne⟩
                 · refine (hch.block (q + 2) (by rw [heap_drewN]; simp; omega) (fun hm => hm (HRO.out.2.2 _ (by omega) (by omega)))).trans ?_
                   rw [heap_drewN]
                   exact Below.heap_setCell _ _ _ _ (show q + 2 ≠ q + 1 by omega)
                 · exact (below_drewN HB1.out nq).trans ((hch.below (by rw [heap_drewN]; exact HB1.out.size) (fun b hm => Nat.le_trans (by omega) (HRO.out.1.all b hm).1)).mono (Nat.le_refl _)))
              | (have hne : stepE st x ≠ 0 := by
                   rename_i h9 _ _
                   have := h9
                   simpa using this
                 obtain ⟨b0, b1, b2, b3⟩ := HJ.out.1.after hch HRO.out.1 HRO.out.2.2 hqW
                 obtain ⟨z0, y0⟩ := box_one b0
                 obtain ⟨z1, y1⟩ := box_one b1
                 obtain ⟨z2, y2⟩ := box_one b2
                 obtain ⟨z3, y3⟩ := box_one b3
                 have hkf : KeepsFrom W2.heap.size W W4 := ((((KeepsOthers.setCell _ _ _).from _).trans (keeps_drewN _ _ _)).trans (KeepsFrom.of_ch2 hch (by omega)))
                 have hb4 : Below w.heap.size w W4 := (below_drewN HB1.out nq).trans ((hch.below (by rw [heap_drewN]; exact HB1.out.size) (fun b hm => Nat.le_trans (by omega) (HRO.out.1.all b hm).1)).mono (Nat.le_refl _))
                 have HB4 := Lib.hid (And.intro b0 (And.intro b1 (And.intro b2 hb4)))
                 have HE := Lib.hid hne
                 clear hch hmp b0 b1 b2 b3 hb4 hne
                 clear qk fk hlk q1 f1
                 gi_region
                 all_goals
                   gi_wp2
                   refine ⟨(((hkf.trans ((KeepsOthers.setCell _ _ _).from _)).trans ((KeepsOthers.setCell _ _ _).from _)).trans ((KeepsOthers.setCell _ _ _).from _)).trans (keeps_drew _ _), rfl, _, _, ⟨PrX.wrong HPV.out HJ.out.2.2.2.2 HJ.out.2.2.1 HSK.out HE.out, HE.out⟩, ?_⟩
                   exact (PrX.made3 HB4.out.1 HB4.out.2.1 HB4.out.2.2.1 HB4.out.2.2.2 _).drew)
  case done =>
    intro D' xs W hD hS hI hk
    subst hS
    obtain rfl : D' = q + 3 := by omega
    clear hD
    obtain ⟨st, hst, _, hJ⟩ := hI.st
    obtain ⟨ro, vl, vr, cs, hr, hsn, h0⟩ := hJ.rd
    have HR := Lib.hid (show parseV s = (0, 0, closeS st) by rw [hpv]; exact runS_done _ _ _ hst)
    have HC := Lib.hid (close_any W _ _ _ ro vl vr cs st hr)
    have HH := Lib.hid (And.intro hJ (And.intro hk (And.intro h0 (And.intro hI.below hr.all))))
    have hSz := hI.below.size
    have hDW := block_lt hk
    clear hst hJ hr hsn h0 hI hk hpv
    refine wpF_in ?_
    gi_wp2_with (refine ⟨trivial, ((callsIn_wide (n := 7)).2 HC.out).mono ?_⟩; rintro e W3 ⟨rfl, ⟨cs', hr'⟩, hch, _⟩; obtain ⟨c0, _, _, f0, _, _⟩ := hr'.cells; obtain ⟨A, c, rfl⟩ := own_form hr'.lst.own; (have hlow : ∀ b, b < w.heap.size + 3 → ¬ Rdr ro b := fun b hb hm => by have := (HH.out.2.2.2.2 b hm).1; omega); (have b0 := hch.heap HH.out.1.r0 (hlow _ (by omega))); (have b1 := hch.heap HH.out.1.r1 (hlow _ (by omega))); (have b2 := hch.heap HH.out.1.r2 (hlow _ (by omega))); (obtain ⟨q0, g0⟩ := box_one b0); (have b1' : (W3.setCell ⟨w.heap.size, 0, none⟩ (.slice A (closeS st).length c)).heap[w.heap.size + 1]? = some (.cells #[.int .i64 0] 3 (0, 0)) := (Below.heap_setCell _ _ _ _ (show w.heap.size + 1 ≠ w.heap.size by omega)).trans b1); (obtain ⟨q1, g1⟩ := box_one b1'); (have b2' : ((W3.setCell ⟨w.heap.size, 0, none⟩ (.slice A (closeS st).length c)).setCell ⟨w.heap.size + 1, 0, none⟩ (.int .i64 0)).heap[w.heap.size + 2]? = some (.cells #[.int .i64 0] 25 (0, 0)) := (Below.heap_setCell _ _ _ _ (show w.heap.size + 2 ≠ w.heap.size + 1 by omega)).trans ((Below.heap_setCell _ _ _ _ (show w.heap.size + 2 ≠ w.heap.size by omega)).trans b2)); (obtain ⟨q2, g2⟩ := box_one b2'))
    have hk6 : (((W3.setCell ⟨w.heap.size, 0, none⟩ (.slice A (closeS st).length c)).setCell ⟨w.heap.size + 1, 0, none⟩ (.int .i64 0)).setCell ⟨w.heap.size + 1 + 1, 0, none⟩ (.int .i64 0)).heap[q + 3]? = some (.deferred (some [])) := (Below.heap_setCell _ _ _ _ (show q + 3 ≠ w.heap.size + 1 + 1 by omega)).trans ((Below.heap_setCell _ _ _ _ (show q + 3 ≠ w.heap.size + 1 by omega)).trans ((Below.heap_setCell _ _ _ _ (show q + 3 ≠ w.heap.size by omega)).trans (hch.heap HH.out.2.1 (fun hm => hm (HH.out.2.2.1 _ (by omega) (by omega))))))
    have p0 : (((W3.setCell ⟨w.heap.size, 0, none⟩ (.slice A (closeS st).length c)).setCell ⟨w.heap.size + 1, 0, none⟩ (.int .i64 0)).setCell ⟨w.heap.size + 1 + 1, 0, none⟩ (.int .i64 0)).heap[w.heap.size]? = some (.cells #[.slice A (closeS st).length c] 22 (0, 0)) := (Below.heap_setCell _ _ _ _ (show w.heap.size ≠ w.heap.size + 1 + 1 by omega)).trans ((Below.heap_setCell _ _ _ _ (show w.heap.size ≠ w.heap.size + 1 by omega)).trans (box_put b0 _))
    have p1 : (((W3.setCell ⟨w.heap.size, 0, none⟩ (.slice A (closeS st).length c)).setCell ⟨w.heap.size + 1, 0, none⟩ (.int .i64 0)).setCell ⟨w.heap.size + 1 + 1, 0, none⟩ (.int .i64 0)).heap[w.heap.size + 1]? = some (.cells #[.int .i64 0] 3 (0, 0)) := (Below.heap_setCell _ _ _ _ (show w.heap.size + 1 ≠ w.heap.size + 1 + 1 by omega)).trans (box_put b1' _)
    have p2 : (((W3.setCell ⟨w.heap.size, 0, none⟩ (.slice A (closeS st).length c)).setCell ⟨w.heap.size + 1, 0, none⟩ (.int .i64 0)).setCell ⟨w.heap.size + 1 + 1, 0, none⟩ (.int .i64 0)).heap[w.heap.size + 2]? = some (.cells #[.int .i64 0] 25 (0, 0)) := box_put b2' _
    have hb6 : Below w.heap.size w (((W3.setCell ⟨w.heap.size, 0, none⟩ (.slice A (closeS st).length c)).setCell ⟨w.heap.size + 1, 0, none⟩ (.int .i64 0)).setCell ⟨w.heap.size + 1 + 1, 0, none⟩ (.int .i64 0)) :=
      (((HH.out.2.2.2.1.trans ((hch.below hSz (fun b hm => Nat.le_trans (by omega) (HH.out.2.2.2.2 b hm).1)).mono (Nat.le_refl _))).setCell (show w.heap.size ≤ w.heap.size by omega) _).setCell (show w.heap.size ≤ w.heap.size + 1 by omega) _).setCell (show w.heap.size ≤ w.heap.size + 1 + 1 by omega) _
    have hkp : ∀ b, b < W3.heap.size → w.heap.size + 3 ≤ b → (((W3.setCell ⟨w.heap.size, 0, none⟩ (.slice A (closeS st).length c)).setCell ⟨w.heap.size + 1, 0, none⟩ (.int .i64 0)).setCell ⟨w.heap.size + 1 + 1, 0, none⟩ (.int .i64 0)).heap[b]? = W3.heap[b]? := fun b _ h3 => (Below.heap_setCell _ _ _ _ (show b ≠ w.heap.size + 1 + 1 by omega)).trans ((Below.heap_setCell _ _ _ _ (show b ≠ w.heap.size + 1 by omega)).trans (Below.heap_setCell _ _ _ _ (show b ≠ w.heap.size by omega)))
    have hsz6 : (((W3.setCell ⟨w.heap.size, 0, none⟩ (.slice A (closeS st).length c)).setCell ⟨w.heap.size + 1, 0, none⟩ (.int .i64 0)).setCell ⟨w.heap.size + 1 + 1, 0, none⟩ (.int .i64 0)).heap.size = W3.heap.size := by simp
    generalize ((W3.setCell ⟨w.heap.size, 0, none⟩ (.slice A (closeS st).length c)).setCell ⟨w.heap.size + 1, 0, none⟩ (.int .i64 0)).setCell ⟨w.heap.size + 1 + 1, 0, none⟩ (.int .i64 0) = W6 at *
    refine ⟨by simp, .inl ⟨_, _, rfl, run_takeDeferred hk6, ?_⟩⟩
    refine ⟨_, cat_results ((World.putObj_heap_other (by omega)).trans p0) ((World.putObj_heap_other (by omega)).trans p1) ((World.putObj_heap_other (by omega)).trans p2) rfl rfl rfl, ?_⟩
    unfold CatP
    rw [HR.out]
    refine ⟨_, rfl, ?_, fun h => absurd rfl h, hb6.grown (grownBy_putObj' _ _ _) hb6.size (fun k e => by cases e; omega)⟩
    refine OutM.weak VaC.keeps (S := Rdr ro) (OutM.keep VaC.keeps hr'.lst.vas ⟨by rw [World.putObj_size, hsz6]; exact Nat.le_refl _, fun b hb hS => ?_⟩) (fun b _ hS => Nat.le_trans (by omega) (hr'.all b hS).1)
    exact (World.putObj_heap_other (fun e => hS (by rw [e]; exact HH.out.2.2.1 _ (by omega) (by omega)))).trans (hkp b hb (hr'.all b hS).1)
  case stop =>
    intro D' c pre W hD hSp hX hk
    obtain rfl : D' = q + 3 := by omega
    clear hD
    obtain ⟨rfl, k, z, ⟨hp, hz⟩, hX⟩ := hX
    have HH := Lib.hid (And.intro hX hk)
    have HP := Lib.hid (And.intro hp hz)
    have hSz := hX.below.size
    have hDW := block_lt hk
    clear hX hk hp hz hpv
    gi_wp2
    refine ⟨by simp, .inl ⟨_, _, rfl, run_takeDeferred HH.out.2, ?_⟩⟩
    refine ⟨_, cat_results ((World.putObj_heap_other (by omega)).trans HH.out.1.r0) ((World.putObj_heap_other (by omega)).trans HH.out.1.r1) ((World.putObj_heap_other (by omega)).trans HH.out.1.r2) rfl rfl rfl, ?_⟩
    unfold CatP
    rw [HP.out.1]
    exact ⟨_, rfl, OutM.nil _ _, fun _ => rfl, HH.out.1.below.grown (grownBy_putObj' _ _ _) hSz (fun k e => by cases e; omega)⟩
end Go.Proofs.YtcnedecmmplmoaaGreatDoor
