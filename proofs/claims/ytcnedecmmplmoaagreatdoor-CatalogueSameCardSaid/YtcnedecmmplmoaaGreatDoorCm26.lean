/- catalogue: a reader in memory; last, close, line. -/
import Derived.Test.YtcnedecmmplmoaaGreatDoorCm25
import Derived.StillTailTactics
import Derived.Lib.AppendStr
set_option linter.unusedVariables false
set_option linter.unusedSimpArgs false
namespace Go.Proofs.YtcnedecmmplmoaaGreatDoor
open Go Go.RowKit Go.BigFrame Go.Maps
open Ver (cmpV BL parts brk)
set_option maxRecDepth 100000

theorem text_moved {P : Program} {w : World} (base : Nat) (t u ty e : TypeId) (i : TypeInfo) (ht : P.underlying t = some (.slice e)) (hu : P.underlying u = some .string) (hi : P.info? e = some i) (hz : i.zero = some (.int .u8 0))
    (hsize : i.size = 1) (hby : i.bytes = 1) (v : Value) (n : Nat) (xs : List Value) (hown : w.ownsRow base e 1 v n xs) (s : ByteArray) (h63 : n + s.size ≤ maxLen) (hbytes : n + s.size ≤ 140737488355328)
    (v' : Value) (w' : World) (hr : (Builtin.append_ #[t, u] ty #[v, .string s]).run P w = .ok v' w') : Moved w v v' := by
  have hsmall : n + s.size ≤ 9223372036854775807 := by simp only [maxLen] at h63; omega
  rcases hown.2 with ⟨rfl, rfl⟩ | ⟨g, cap, cur, rfl, hbg, hg, hnc, hcm, hcs, htake⟩
  · obtain ⟨v2, w2, hr2, ho2, _, hnil⟩ := Lib.run_append_own_string (P := P) w w.heap.size t u ty e i ht hu hi hz hsize hby _ 0 xs ⟨hown.1, .inl ⟨rfl, rfl⟩⟩ s h63 hbytes (Nat.le_refl _)
    rw [hr] at hr2
    cases hr2
    cases hb : v'.ownBlock with
    | none => exact .inl hb
    | some g => exact .inr ⟨g, hb, (ho2.lt g hb).1⟩
  · by_cases hroom : n + s.size ≤ cap
    · have hr2 := Lib.run_append_room_string (P := P) w t u ty e i ht hu hi hsize g n cap cur hg s hroom (by omega)
      rw [hr] at hr2
      cases hr2
      exact .inl rfl
    · have holds : ∀ j u, xs[j]? = some u → w.cell? ((⟨g, 0, none⟩ : Addr).add j) = some u := hown.cells (g := g) rfl
      have hr2 := Lib.run_append_grow_string (P := P) w t u ty e i (.int .u8 0) ht hu hi hz ⟨g, 0, none⟩ n cap xs (by rw [hsize]; exact hown.1) holds s (by omega) (by omega) (by rw [hby]; exact growslice_fits (by omega) (by omega))
      rw [hr] at hr2
      cases hr2
      exact .inr ⟨_, rfl, Nat.le_refl _⟩
theorem wpList_appT {P : Program} {w : World} {ops : Array Oper} {rest : List Oper} {o : Oper} {a : Act} {Q : Exit → Act → World → Prop} (hgd : o.guard = none) (sl x : Operand) (t u : TypeId)
    (ho : o.op = .call { callee := .builtin .append, args := #[sl, x], argTypes := #[t, u] })
    (base : Nat) (e : TypeId) (i : TypeInfo) (ht : P.underlying t = some (.slice e)) (hu : P.underlying u = some .string) (hi : P.info? e = some i) (hz : i.zero = some (.int .u8 0)) (hsize : i.size = 1) (hby : i.bytes = 1)
    (v : Value) (n : Nat) (xs : List Value) (hs : a.eval sl = v) (hown : w.ownsRow base e 1 v n xs) (s : ByteArray) (hx : a.eval x = .string s)
    (h63 : n + s.size ≤ maxLen) (hbytes : n + s.size ≤ 140737488355328) (hbase : base ≤ w.heap.size)
    (h : ∀ v' w', w'.ownsRow base e 1 v' (n + s.size) (xs ++ Lib.strCells s) → w.grownBy w' v.ownBlock → Moved w v v' → wpList P ops Q rest (a.put o.dst v') w') : wpList P ops Q (o :: rest) a w :=
  wpList_plain hgd fun _ hK => by
    obtain ⟨v', w', hr, h2, h3, _⟩ := Lib.run_append_own_string (P := P) w base t u o.type e i ht hu hi hz hsize hby v n xs hown s h63 hbytes hbase
    have hm := text_moved base t u o.type e i ht hu hi hz hsize hby v n xs hown s h63 hbytes v' w' hr
    unfold Oper.wp execOp
    simp only [ho, resolve, invoke, builtin, Sem.run_bind, Sem.run_pure, Result.andThen_ok, List.map_toArray, List.map_cons, List.map_nil, hs, hx, hr]
    exact hK _ _ (h v' w' h2 h3 hm)
theorem own_set {w : World} {base n cap g i : Nat} {e : TypeId} {xs : List Value} {size : Nat} (h : w.ownsRow base e size (.slice (some ⟨g, 0, none⟩) n cap) n xs) (u : Value) : (w.setCell ⟨g, i, none⟩ u).ownsRow base e size (.slice (some ⟨g, 0, none⟩) n cap) n (xs.set i u) := by
  refine ⟨by rw [List.length_set]; exact h.1, ?_⟩
  rcases h.2 with ⟨e0, _⟩ | ⟨g', cap', cur, e0, hg, hgg, hnc, hcm, hcs, htk⟩
  · cases e0
  · injection e0 with e1 _ e2
    injection e1 with e1
    injection e1 with e1 _ _
    subst e1; subst e2
    refine .inr ⟨g, cap, _, rfl, hg, blk_set hgg i u, hnc, hcm, by simpa using hcs, ?_⟩
    rw [← htk, Array.toList_setIfInBounds, List.take_set]
theorem infoByte : (Tryz.prog.info? 5).map (fun i => (i.zero, i.size, i.bytes)) = some (some (.int .u8 0), 1, 1) := by kernel_rfl
/-- A row of needs of the reader's own, in blocks of part q; what it points to is settled (7). -/
def NAt (w : World) (base : Nat) (ro : Nat → Nat) (q : Nat) (u : Value) (l : List Nde) : Prop :=
  ∃ vs, w.ownsRow base 40 2 u l.length vs ∧ (∀ g, u.ownBlock = some g → ro g = q) ∧ ItemsM 2 NdC w (fun b => ro b = 7) vs l
theorem NAt.ch {w w' : World} {base q : Nat} {ro : Nat → Nat} {u : Value} {l : List Nde} {M : Nat → Prop} (h : NAt w base ro q u l) (hc : Ch w w' M) (hM : ∀ b, M b → ro b ≠ q ∧ ro b ≠ 7) : NAt w' base ro q u l := by
  obtain ⟨vs, h1, h2, h3⟩ := h
  exact ⟨vs, hc.own h1 (fun b hb hm => (hM b hm).1 (h2 b hb)), h2, h3.keep NdC.keeps (hc.same _ fun b _ hS hm => (hM b hm).2 hS)⟩
theorem NAt.ro {w : World} {base q q' : Nat} {ro ro' : Nat → Nat} {u : Value} {l : List Nde} (h : NAt w base ro q u l) (h1 : ∀ b, b < w.heap.size → ro b = q → ro' b = q') (h7 : ∀ b, b < w.heap.size → ro b = 7 → ro' b = 7) : NAt w base ro' q' u l := by
  obtain ⟨vs, ho, h2, h3⟩ := h
  exact ⟨vs, ho, fun g hg => h1 g (ho.lt g hg).2 (h2 g hg), h3.weak NdC.keeps fun b hb hS => h7 b hb hS⟩
theorem NAt.nil (w : World) (base q : Nat) (ro : Nat → Nat) : NAt w base ro q (.slice none 0 0) [] := ⟨[], World.ownsRow_nil _ _ _ _, (fun g h => by cases h), ItemsM.nil _ _⟩
theorem NAt.nds {w : World} {base q : Nat} {ro : Nat → Nat} {u : Value} {l : List Nde} (h : NAt w base ro q u l) (hq : q ≠ 0) (hr : ∀ b, ro b ≠ 0 → base ≤ b) : NdsS w (fun b => base ≤ b) u l := by
  obtain ⟨vs, h1, _, h3⟩ := h
  exact ⟨vs, RdS.own h1, h3.weak NdC.keeps fun b _ hS => hr b (by rw [hS]; decide)⟩
def qN (k n : Nat) : Nat := if k + 1 = n then 5 else 7
def qC (k n : Nat) : Nat := if k + 1 = n then 6 else 7
/-- The list of a reader: its blocks are 3; the last one's needs 5, conflicts 6; all other ones settled. -/
structure LstAt (w : World) (base : Nat) (ro : Nat → Nat) (v : Value) (cs : List Value) (l : List Va) : Prop where
  own : w.ownsRow base 53 5 v l.length cs
  role : ∀ g, v.ownBlock = some g → ro g = 3
  item : ∀ k x, l[k]? = some x → ∃ un uc, (cs.drop (k * 5)).take 5 = [.string x.name, .string x.ver, un, uc, .string x.recipe] ∧ NAt w base ro (qN k l.length) un x.needs ∧ NAt w base ro (qC k l.length) uc x.confs
theorem LstAt.ch {w w' : World} {base : Nat} {ro : Nat → Nat} {v : Value} {cs : List Value} {l : List Va} {M : Nat → Prop} (h : LstAt w base ro v cs l) (hc : Ch w w' M) (hM : ∀ b, M b → ro b ≠ 3 ∧ ro b ≠ 5 ∧ ro b ≠ 6 ∧ ro b ≠ 7) : LstAt w' base ro v cs l := by
  refine ⟨hc.own h.own (fun b hb hm => (hM b hm).1 (h.role b hb)), h.role, fun k x hx => ?_⟩
  obtain ⟨un, uc, e, h1, h2⟩ := h.item k x hx
  refine ⟨un, uc, e, h1.ch hc (fun b hm => ⟨?_, (hM b hm).2.2.2⟩), h2.ch hc (fun b hm => ⟨?_, (hM b hm).2.2.2⟩)⟩
  · unfold qN; split
    · exact (hM b hm).2.1
    · exact (hM b hm).2.2.2
  · unfold qC; split
    · exact (hM b hm).2.2.1
    · exact (hM b hm).2.2.2
theorem LstAt.nil (w : World) (base : Nat) (ro : Nat → Nat) : LstAt w base ro (.slice none 0 0) [] [] := ⟨World.ownsRow_nil _ _ _ _, (fun g h => by cases h), (fun k x h => by simp at h)⟩
/-- Bytes as cells. -/
def bys (s : ByteArray) : List Value := s.data.toList.map fun c => Value.int .u8 (c.toNat : Int)
/-- A reader: its box is 1, its set 2, its recipe's blocks 4. -/
structure RdAt (w : World) (base rb mb : Nat) (ro : Nat → Nat) (vl vr : Value) (cs : List Value) (st : RSt) : Prop where
  box : w.heap[rb]? = some (.cells #[vl, .map (some mb), vr] 78 (0, 0))
  rrb : ro rb = 1
  rmb : ro mb = 2
  all : ∀ b, ro b ≠ 0 → base ≤ b ∧ b < w.heap.size
  lst : LstAt w base ro vl cs st.1
  rcp : w.ownsRow base 5 1 vr st.2.size (bys st.2)
  rrcp : ∀ g, vr.ownBlock = some g → ro g = 4
  seen : SeenE w mb st.1
  few : st.1.length ≤ 2000
  txt : ∀ x ∈ st.1, x.name.size ≤ 1000000 ∧ x.ver.size ≤ 1000000 ∧ x.needs.length ≤ 64 ∧ x.confs.length ≤ 64
/-- All but the reader's blocks stand. -/
def Rdr (ro : Nat → Nat) : Nat → Prop := fun b => ro b ≠ 0
theorem RdAt.ch {w w' : World} {base rb mb : Nat} {ro : Nat → Nat} {vl vr : Value} {cs : List Value} {st : RSt} {M : Nat → Prop} (h : RdAt w base rb mb ro vl vr cs st) (hc : Ch w w' M) (hM : ∀ b, M b → ro b = 0) : RdAt w' base rb mb ro vl vr cs st := by
  refine ⟨hc.heap h.box (fun hm => by have := hM _ hm; rw [h.rrb] at this; cases this), h.rrb, h.rmb, fun b hb => ⟨(h.all b hb).1, Nat.lt_of_lt_of_le (h.all b hb).2 hc.size⟩, h.lst.ch hc (fun b hm => by have := hM b hm; omega), hc.own h.rcp (fun b hb hm => by have := hM b hm; rw [h.rrcp b hb] at this; cases this), h.rrcp, h.seen.block (hc.block mb h.seen.lt (fun hm => by have := hM _ hm; rw [h.rmb] at this; cases this)), h.few, h.txt⟩
theorem RdAt.cells {w : World} {base rb mb : Nat} {ro : Nat → Nat} {vl vr : Value} {cs : List Value} {st : RSt} (h : RdAt w base rb mb ro vl vr cs st) :
    w.cell? ⟨rb, 0, none⟩ = some vl ∧ w.cell? ⟨rb, 1, none⟩ = some (.map (some mb)) ∧ w.cell? ⟨rb, 2, none⟩ = some vr ∧ w.frozen? ⟨rb, 0, none⟩ = false ∧ w.frozen? ⟨rb, 1, none⟩ = false ∧ w.frozen? ⟨rb, 2, none⟩ = false := by
  refine ⟨?_, ?_, ?_, blk_free h.box 0, blk_free h.box 1, blk_free h.box 2⟩ <;> (rw [blk_cell h.box]; rfl)
/-- Where the last variant lies. -/
def lastP (v : Value) (n : Nat) : Value := match v with
  | .slice (some ⟨g, _, _⟩) _ _ => if n = 0 then .pointer none else .pointer (some ⟨g, (n - 1) * 5, none⟩)
  | _ => .pointer none
theorem LstAt.form {w : World} {base : Nat} {ro : Nat → Nat} {v : Value} {cs : List Value} {l : List Va} (h : LstAt w base ro v cs l) (hn : l.length ≠ 0) : ∃ g cap, v = .slice (some ⟨g, 0, none⟩) l.length cap ∧ base ≤ g ∧ g < w.heap.size ∧ ro g = 3 ∧ lastP v l.length = .pointer (some ⟨g, (l.length - 1) * 5, none⟩) := by
  obtain ⟨g, cap, rfl, hb, hl⟩ := World.ownsRow.form h.own (by omega)
  exact ⟨g, cap, rfl, hb, hl, h.role g rfl, by unfold lastP; dsimp only; rw [if_neg hn]⟩
set_option maxRecDepth 100000 in
set_option maxHeartbeats 2000000 in
theorem last_any (w : World) (base rb mb : Nat) (ro : Nat → Nat) (vl vr : Value) (cs : List Value) (st : RSt) (h : RdAt w base rb mb ro vl vr cs st) : Calls Tryz.prog 78 #[.pointer (some ⟨rb, 0, none⟩)] w fun e w' => e = .returned (lastP vl st.1.length) ∧ ∃ nq, w' = w.drewN nq := by
  obtain ⟨c0, _⟩ := h.cells
  by_cases hn : st.1.length = 0
  · obtain ⟨A, c, rfl⟩ := own_form h.lst.own
    have hnI : ((st.1.length : Int) == 0) = true := by rw [hn]; rfl
    have HF := Lib.hid (show lastP (.slice A st.1.length c) st.1.length = .pointer none by
      unfold lastP
      split
      · rw [if_pos hn]
      · rfl)
    have HN := Lib.hid hn
    clear h hn
    go_enter Tryz.func78, Tryz.ntmps78
    go_wp2
    go_ret
    exact ⟨by rw [HF.out]; rfl, 0, rfl⟩
  · obtain ⟨g, cap, rfl, hb, hg, hr, hP⟩ := h.lst.form hn
    have hfew := h.few
    have HP := Lib.hid hP
    have hnI : ((st.1.length : Int) == 0) = false := by
      rw [beq_eq_false_iff_ne]; omega
    have hw1 : IntKind.i64.wrap ((st.1.length : Int) - 1) = ((st.1.length - 1 : Nat) : Int) := by rw [IntWalk.i64_in _ (by omega)]; omega
    have hlt : ((st.1.length - 1 : Nat) : Int) < (st.1.length : Int) := by omega
    have hge : (0 : Int) ≤ ((st.1.length - 1 : Nat) : Int) := by omega
    clear h hn hP
    generalize st.1.length = n at *
    go_enter Tryz.func78, Tryz.ntmps78
    go_upto_region 3 with (fail)
    go_quiet (fail)
    go_wp2
    go_ret
    rw [HP.out]
    exact ⟨rfl, _, rfl⟩
end Go.Proofs.YtcnedecmmplmoaaGreatDoor

/- catalogue: a reader's methods line, close. -/
namespace Go.Proofs.YtcnedecmmplmoaaGreatDoor
open Go Go.RowKit Go.BigFrame Go.Maps
open Ver (cmpV BL parts brk)
set_option maxRecDepth 100000

theorem NAt.ext {w : World} {base q : Nat} {ro ro' : Nat → Nat} {u : Value} {l : List Nde} (h : NAt w base ro q u l) (hx : ∀ b, b < w.heap.size → ro' b = ro b) : NAt w base ro' q u l :=
  h.ro (fun b hb e => (hx b hb).trans e) (fun b hb e => (hx b hb).trans e)
theorem LstAt.ext {w : World} {base : Nat} {ro ro' : Nat → Nat} {v : Value} {cs : List Value} {l : List Va} (h : LstAt w base ro v cs l) (hx : ∀ b, b < w.heap.size → ro' b = ro b) : LstAt w base ro' v cs l := by
  refine ⟨h.own, fun g hg => (hx g (h.own.lt g hg).2).trans (h.role g hg), fun k x hk => ?_⟩
  obtain ⟨un, uc, e, h1, h2⟩ := h.item k x hk
  exact ⟨un, uc, e, h1.ext hx, h2.ext hx⟩
theorem RdAt.ext {w : World} {base rb mb : Nat} {ro ro' : Nat → Nat} {vl vr : Value} {cs : List Value} {st : RSt} (h : RdAt w base rb mb ro vl vr cs st) (hx : ∀ b, b < w.heap.size → ro' b = ro b) (ha : ∀ b, ro' b ≠ 0 → base ≤ b ∧ b < w.heap.size) : RdAt w base rb mb ro' vl vr cs st :=
  ⟨h.box, (hx _ (block_lt h.box)).trans h.rrb, (hx _ h.seen.lt).trans h.rmb, ha, h.lst.ext hx, h.rcp, fun g hg => (hx g (h.rcp.lt g hg).2).trans (h.rrcp g hg), h.seen, h.few, h.txt⟩
/-- What a method leaves. -/
def MPost (w : World) (base rb mb : Nat) (ro : Nat → Nat) (l : List Va) (z : Int) (st' : RSt) (e : Ending) (w' : World) : Prop :=
  e = .returned (.int .i64 z) ∧ Ch w w' (Rdr ro) ∧ (z = 0 → ∃ ro' vl' vr' cs', RdAt w' base rb mb ro' vl' vr' cs' st' ∧ (∀ b, b < w.heap.size → ro b = 0 → ro' b = 0) ∧ (SeenP w mb l → SeenP w' mb st'.1))
theorem RdAt.rb_mb {w : World} {base rb mb : Nat} {ro : Nat → Nat} {vl vr : Value} {cs : List Value} {st : RSt} (h : RdAt w base rb mb ro vl vr cs st) : rb ≠ mb := fun e => by
  have h1 := h.rrb; rw [e, h.rmb] at h1; cases h1
/-- The recipe's row, another one. -/
theorem RdAt.recipe {w w7 : World} {base rb mb : Nat} {ro : Nat → Nat} {vl vr v' : Value} {cs : List Value} {st : RSt} {r' : ByteArray} (h : RdAt w base rb mb ro vl vr cs st) (hg : w.grownBy w7 vr.ownBlock) (hm : Moved w vr v')
    (ho : w7.ownsRow base 5 1 v' r'.size (bys r')) :
    RdAt (w7.setCell ⟨rb, 2, none⟩ v') base rb mb (fun b => if v'.ownBlock = some b then 4 else ro b) vl v' cs (st.1, r') ∧ Ch w (w7.setCell ⟨rb, 2, none⟩ v') (Rdr ro) ∧ (∀ b, b < w.heap.size → (if v'.ownBlock = some b then 4 else ro b) = ro b) ∧ (w7.setCell ⟨rb, 2, none⟩ v').heap[mb]? = w.heap[mb]? := by
  have hx : ∀ b, b < w.heap.size → (if v'.ownBlock = some b then 4 else ro b) = ro b := fun b hb => by
    split
    · rename_i e
      rcases hm with h1 | ⟨g, h1, h2⟩
      · exact (h.rrcp b (by rw [← h1]; exact e)).symm
      · rw [e] at h1; cases h1; omega
    · rfl
  have hc0 : Ch w w7 (fun b => vr.ownBlock = some b) := (Ch.refl w _).grown hg (fun k _ e => e)
  have hc : Ch w (w7.setCell ⟨rb, 2, none⟩ v') (fun b => b = rb ∨ vr.ownBlock = some b) := Ch.setCell (hc0.weak (M' := fun b => b = rb ∨ vr.ownBlock = some b) fun k _ e => .inr e) (.inl rfl) _
  have hro : ∀ b, (b = rb ∨ vr.ownBlock = some b) → ro b = 1 ∨ ro b = 4 := fun b hb => by
    rcases hb with rfl | e
    · exact .inl h.rrb
    · exact .inr (h.rrcp b e)
  have hcl : Ch w (w7.setCell ⟨rb, 2, none⟩ v') (fun b => (b = rb ∨ vr.ownBlock = some b) ∧ b < w.heap.size) := ⟨hc.os, hc.tape, hc.output, hc.size, fun k hk hn => hc.block k hk (fun e => hn ⟨e, hk⟩)⟩
  have hb7 : w7.heap[rb]? = some (.cells #[vl, .map (some mb), vr] 78 (0, 0)) := hc0.heap h.box (fun e => by have := h.rrcp rb e; rw [h.rrb] at this; cases this)
  have hz : (w7.setCell ⟨rb, 2, none⟩ v').heap.size = w7.heap.size := by simp
  have hne : v'.ownBlock ≠ some rb := fun e => by
    have := hx rb (block_lt h.box)
    rw [if_pos e, h.rrb] at this; cases this
  refine ⟨⟨?_, (hx _ (block_lt h.box)).trans h.rrb, (hx _ h.seen.lt).trans h.rmb, fun b hb => ?_, (h.lst.ext hx).ch (M := fun b => (b = rb ∨ vr.ownBlock = some b) ∧ b < w.heap.size) hcl (fun b hm => by have := hx b hm.2; rcases hro b hm.1 with e | e <;> omega), ?_, fun g hg => if_pos hg, h.seen.block (hc.block mb h.seen.lt (fun hm => by rcases hro mb hm with e | e <;> (have := h.rmb; omega))), h.few, h.txt⟩, hc.weak (fun b _ hm => by have := hro b hm; show ro b ≠ 0; omega), hx, hc.block mb h.seen.lt (fun hm => by rcases hro mb hm with e | e <;> (have := h.rmb; omega))⟩
  · have := blk_set hb7 2 v'
    simpa using this
  · rw [hz]
    by_cases e : v'.ownBlock = some b
    · exact ⟨(ho.lt b e).1, (ho.lt b e).2⟩
    · rw [if_neg e] at hb
      exact ⟨(h.all b hb).1, Nat.lt_of_lt_of_le (h.all b hb).2 hc0.size⟩
  · exact World.ownsRow.kept ho (row := some rb) ⟨rfl, rfl, rfl, by simp, fun k hk hne => Below.heap_setCell _ _ _ _ (fun e => hne (by rw [e]))⟩ (.inr hne)
theorem bys_app (a b : ByteArray) : bys (a ++ b) = bys a ++ bys b := by simp [bys]
theorem bys_cells (s : ByteArray) : Lib.strCells s = bys s := by
  unfold Lib.strCells bys
  rfl
set_option maxRecDepth 100000 in
set_option maxHeartbeats 2000000 in
theorem line_any (w : World) (base rb mb : Nat) (ro : Nat → Nat) (vl vr : Value) (cs : List Value) (st : RSt) (h : RdAt w base rb mb ro vl vr cs st) (hB : base ≤ w.heap.size) (s : ByteArray) (hs : st.2.size + s.size ≤ 10000000) :
    Calls Tryz.prog 74 #[.pointer (some ⟨rb, 0, none⟩), .string s] w (MPost w base rb mb ro st.1 (lineE st.1) (lineN st s)) := by
  have HL := Lib.hid (last_any w base rb mb ro vl vr cs st h)
  by_cases hn : st.1.length = 0
  · have HF := Lib.hid (show lineE st.1 = 150 by unfold lineE; rw [if_pos hn])
    obtain ⟨A, c, hvl⟩ := own_form h.lst.own
    have hP : lastP vl st.1.length = .pointer none := by
      rw [hvl]
      unfold lastP
      split
      · rw [if_pos hn]
      · rfl
    rw [hP] at HL
    clear h hn hvl hP
    go_enter Tryz.func74, Tryz.ntmps74
    go_wp2_with (go_at_call 78; refine HL.out.mono ?_; rintro e w1 ⟨rfl, nq, rfl⟩)
    go_ret
    exact ⟨by rw [HF.out]; rfl, (Ch.refl w _).drewN nq, fun e => by rw [HF.out] at e; cases e⟩
  · obtain ⟨g, cap, hvl, hb, hg, hr, hP⟩ := h.lst.form hn
    rw [hP] at HL
    have HF := Lib.hid (show lineE st.1 = 0 by unfold lineE; rw [if_neg hn])
    have hn2 : ¬ 9223372036854775807 < s.size + 1 := by omega
    obtain ⟨i0, hi0, hz0, hz1, hz2⟩ := info_parts infoByte
    have HI := Lib.hid (And.intro hi0 (And.intro hz0 (And.intro hz1 hz2)))
    have HH := Lib.hid h
    have HS := Lib.hid hs
    have HBB := Lib.hid hB
    clear h hn hP hvl hi0 hz0 hz1 hz2 hs hb hg hr hB
    obtain ⟨sn, hsn⟩ : ∃ sn, sn = s ++ ⟨#[10]⟩ := ⟨_, rfl⟩
    have HSN := Lib.hid (show sn.size = s.size + 1 by rw [hsn, ByteArray.size_append]; rfl)
    have HSE := Lib.hid hsn
    go_enter Tryz.func74, Tryz.ntmps74
    go_wp2_with (first
      | (go_at_call 78; refine HL.out.mono ?_; rintro e w1 ⟨rfl, nq, rfl⟩
         have hq := HH.out.ch ((Ch.refl w (fun _ => False)).drewN nq) (fun b hb => hb.elim)
         obtain ⟨c0, c1, c2, f0, f1, f2⟩ := hq.cells)
      | (at_builtin; rw [← hsn]
         go_loud (refine wpList_appT rfl _ _ 51 9 rfl base 5 i0 Tryz.underlying51 Tryz.underlying9 HI.out.1 HI.out.2.1 HI.out.2.2.1 HI.out.2.2.2 vr st.2.size (bys st.2) rfl hq.rcp sn rfl (by have := HSN.out; have := HS.out; unfold maxLen; omega) (by have := HSN.out; have := HS.out; omega) (by rw [heap_drewN]; exact HBB.out) ?_)
         intro v' w7 hown7 hgr7 hmv7
         obtain ⟨A7, c7, rfl⟩ := own_form hown7
         have hb7 : w7.heap[rb]? = some (.cells #[vl, .map (some mb), vr] 78 (0, 0)) := (hgr7.block rb (block_lt hq.box) (fun e => by have := hq.rrcp rb e.symm; rw [hq.rrb] at this; cases this)).trans hq.box
         have q2 : w7.cell? ⟨rb, 2, none⟩ = some vr := by rw [blk_cell hb7]; rfl
         have g2 := blk_free hb7 2))
    have hown8 : w7.ownsRow base 5 1 (.slice A7 (st.2.size + sn.size) c7) (st.2 ++ s ++ ⟨#[10]⟩).size (bys (st.2 ++ s ++ ⟨#[10]⟩)) := by
      have e1 : st.2 ++ s ++ (⟨#[10]⟩ : ByteArray) = st.2 ++ sn := by rw [HSE.out, ByteArray.append_assoc]
      rw [e1, bys_app, ← bys_cells sn, ByteArray.size_append]
      exact hown7
    obtain ⟨h1, h2, h3, h4⟩ := hq.recipe hgr7 hmv7 hown8
    rw [HSN.out] at h1 h2 h3 h4
    go_ret
    refine ⟨by rw [HF.out]; rfl, ((Ch.refl w _).drewN nq).trans h2 (fun k _ hk => hk), fun _ => ⟨_, _, _, _, h1, fun b hb h0 => (h3 b (by rw [heap_drewN]; exact hb)).trans h0, fun hsn => hsn.block (h4.trans (by rw [heap_drewN]))⟩⟩
end Go.Proofs.YtcnedecmmplmoaaGreatDoor

/- catalogue: a reader's close. -/
namespace Go.Proofs.YtcnedecmmplmoaaGreatDoor
open Go Go.RowKit Go.BigFrame Go.Maps
open Ver (cmpV BL parts brk)
set_option maxRecDepth 100000

theorem set_five {cs : List Value} {i j k : Nat} {u : Value} (hj : j < 5) : ((cs.set (i * 5 + j) u).drop (k * 5)).take 5 = if k = i then ((cs.drop (i * 5)).take 5).set j u else (cs.drop (k * 5)).take 5 := by
  rw [List.drop_set]
  by_cases h : k = i
  · subst h
    rw [if_neg (by omega), if_pos rfl, List.take_set]
    congr 1
    omega
  · rw [if_neg h]
    by_cases h2 : i * 5 + j < k * 5
    · rw [if_pos h2]
    · rw [if_neg h2, List.take_set, List.set_eq_of_length_le]
      rw [List.length_take]
      omega
theorem own_cell5 {w : World} {base n cap g : Nat} {e : TypeId} {xs : List Value} {size : Nat} (h : w.ownsRow base e size (.slice (some ⟨g, 0, none⟩) n cap) n xs) {j : Nat} {u : Value} (hu : xs[j]? = some u) : w.cell? ⟨g, j, none⟩ = some u ∧ w.frozen? ⟨g, j, none⟩ = false := by
  refine ⟨?_, ?_⟩
  · have := h.cells (g := g) rfl j u hu
    rwa [show (⟨g, 0, none⟩ : Addr).add j = ⟨g, j, none⟩ from by unfold Addr.add; by_cases h0 : j = 0 <;> simp [h0]] at this
  · rcases h.2 with ⟨e0, _⟩ | ⟨g', cap', cur, e0, hg, hgg, _⟩
    · cases e0
    · injection e0 with e1 _ e2
      injection e1 with e1
      injection e1 with e1 _ _
      subst e1
      exact frozen_of_row _ _ _ _ _ hgg
theorem setL_len (l : List Va) (x : Va) : (setL l x).length = l.length := by unfold setL; simp
theorem lastV_get (l : List Va) (h : l.length ≠ 0) : l[l.length - 1]? = some (lastV l) := by
  unfold lastV
  simp [List.getD, List.getElem?_eq_getElem (show l.length - 1 < l.length by omega)]
/-- The last variant, another one. -/
theorem LstAt.put {w W : World} {base j : Nat} {ro ro' : Nat → Nat} {v v0 u : Value} {cs : List Value} {l : List Va} {x' : Va} (h : LstAt w base ro v0 cs l) (hl : l.length ≠ 0) (hj : j < 5) (hown : W.ownsRow base 53 5 v l.length (cs.set ((l.length - 1) * 5 + j) u))
    (hrole : ∀ g, v.ownBlock = some g → ro' g = 3) (hkeep : ∀ un ns, NAt w base ro 7 un ns → NAt W base ro' 7 un ns)
    (hlast : ∃ un uc, ((cs.drop ((l.length - 1) * 5)).take 5).set j u = [.string x'.name, .string x'.ver, un, uc, .string x'.recipe] ∧ NAt W base ro' 5 un x'.needs ∧ NAt W base ro' 6 uc x'.confs) : LstAt W base ro' v (cs.set ((l.length - 1) * 5 + j) u) (setL l x') := by
  refine ⟨by rw [setL_len]; exact hown, hrole, fun k x hk => ?_⟩
  rw [setL_len, set_five hj]
  unfold setL at hk
  by_cases hkl : k = l.length - 1
  · subst hkl
    rw [if_pos rfl]
    rw [List.getElem?_set_self (by omega)] at hk
    cases hk
    have e1 : qN (l.length - 1) l.length = 5 := by unfold qN; rw [if_pos (by omega)]
    have e2 : qC (l.length - 1) l.length = 6 := by unfold qC; rw [if_pos (by omega)]
    rw [e1, e2]
    exact hlast
  · rw [if_neg hkl]
    rw [List.getElem?_set_ne (by omega)] at hk
    obtain ⟨un, uc, e, h1, h2⟩ := h.item k x hk
    have hlt := (List.getElem?_eq_some_iff.1 hk).1
    have e1 : qN k l.length = 7 := by unfold qN; rw [if_neg (by omega)]
    have e2 : qC k l.length = 7 := by unfold qC; rw [if_neg (by omega)]
    rw [e1] at h1
    rw [e2] at h2
    rw [e1, e2]
    exact ⟨un, uc, e, hkeep _ _ h1, hkeep _ _ h2⟩
theorem LstAt.last {w : World} {base : Nat} {ro : Nat → Nat} {v : Value} {cs : List Value} {l : List Va} (h : LstAt w base ro v cs l) (hl : l.length ≠ 0) : ∃ un uc, (cs.drop ((l.length - 1) * 5)).take 5 = [.string (lastV l).name, .string (lastV l).ver, un, uc, .string (lastV l).recipe] ∧ NAt w base ro 5 un (lastV l).needs ∧ NAt w base ro 6 uc (lastV l).confs := by
  obtain ⟨un, uc, e, h1, h2⟩ := h.item _ _ (lastV_get l hl)
  have e1 : qN (l.length - 1) l.length = 5 := by unfold qN; rw [if_pos (by omega)]
  have e2 : qC (l.length - 1) l.length = 6 := by unfold qC; rw [if_pos (by omega)]
  rw [e1] at h1
  rw [e2] at h2
  exact ⟨un, uc, e, h1, h2⟩
theorem five_get {cs : List Value} {i j : Nat} {a b c d e u : Value} (h : (cs.drop (i * 5)).take 5 = [a, b, c, d, e]) (hu : [a, b, c, d, e][j]? = some u) : cs[i * 5 + j]? = some u := by
  rw [← h, List.getElem?_take] at hu
  split at hu
  · rwa [List.getElem?_drop] at hu
  · cases hu
theorem dupV_set (l : List Va) (x : Va) (a b : ByteArray) (hn : x.name = (lastV l).name) (hv : x.ver = (lastV l).ver) : dupV (setL l x) a b = dupV l a b := by
  unfold dupV setL lastV at *
  by_cases h : l.length = 0
  · rw [List.length_eq_zero_iff.1 h]; rfl
  · rw [Bool.eq_iff_iff, List.any_eq_true, List.any_eq_true]
    constructor
    · rintro ⟨y, hy, e⟩
      rcases List.mem_or_eq_of_mem_set hy with h1 | rfl
      · exact ⟨y, h1, e⟩
      · refine ⟨l.getD (l.length - 1) default, ?_, by rw [← hn, ← hv]; exact e⟩
        simp [List.getD, List.getElem?_eq_getElem (show l.length - 1 < l.length by omega)]
    · rintro ⟨y, hy, e⟩
      obtain ⟨k, hk⟩ := List.getElem?_of_mem hy
      by_cases hkl : k = l.length - 1
      · refine ⟨x, List.mem_of_getElem? (i := l.length - 1) (by rw [List.getElem?_set_self (by omega)]), ?_⟩
        rw [hn, hv]
        subst hkl
        simpa [List.getD, hk] using e
      · exact ⟨y, List.mem_of_getElem? (i := k) (by rw [List.getElem?_set_ne (by omega)]; exact hk), e⟩
theorem mem_setL {l : List Va} {x y : Va} (h : y ∈ setL l x) : y ∈ l ∨ y = x := List.mem_or_eq_of_mem_set h
/-- The two stores of close. -/
theorem RdAt.closed {w : World} {base rb mb g cap : Nat} {ro : Nat → Nat} {vr : Value} {cs : List Value} {st : RSt} (h : RdAt w base rb mb ro (.slice (some ⟨g, 0, none⟩) st.1.length cap) vr cs st) (hn : st.1.length ≠ 0) :
    RdAt ((w.setCell ⟨g, (st.1.length - 1) * 5 + 4, none⟩ (.string st.2)).setCell ⟨rb, 2, none⟩ (.slice none 0 0)) base rb mb ro (.slice (some ⟨g, 0, none⟩) st.1.length cap) (.slice none 0 0) (cs.set ((st.1.length - 1) * 5 + 4) (.string st.2)) (closeS st, ⟨#[]⟩) ∧
    Ch w ((w.setCell ⟨g, (st.1.length - 1) * 5 + 4, none⟩ (.string st.2)).setCell ⟨rb, 2, none⟩ (.slice none 0 0)) (Rdr ro) ∧ ((w.setCell ⟨g, (st.1.length - 1) * 5 + 4, none⟩ (.string st.2)).setCell ⟨rb, 2, none⟩ (.slice none 0 0)).heap[mb]? = w.heap[mb]? := by
  have hrg : ro g = 3 := h.lst.role g rfl
  have hne : g ≠ rb := fun e => by have := h.rrb; rw [← e, hrg] at this; cases this
  have hc1 : Ch w (w.setCell ⟨g, (st.1.length - 1) * 5 + 4, none⟩ (.string st.2)) (fun b => b = g) := Ch.setCell (M := fun b => b = g) (Ch.refl w _) (p := ⟨g, (st.1.length - 1) * 5 + 4, none⟩) rfl _
  have hc : Ch w ((w.setCell ⟨g, (st.1.length - 1) * 5 + 4, none⟩ (.string st.2)).setCell ⟨rb, 2, none⟩ (.slice none 0 0)) (fun b => b = g ∨ b = rb) := (hc1.weak (M' := fun b => b = g ∨ b = rb) fun _ _ e => .inl e).setCell (p := ⟨rb, 2, none⟩) (.inr rfl) _
  have hro : ∀ b, (b = g ∨ b = rb) → ro b = 3 ∨ ro b = 1 := fun b hb => by
    rcases hb with rfl | rfl
    · exact .inl hrg
    · exact .inr h.rrb
  have hb1 : (w.setCell ⟨g, (st.1.length - 1) * 5 + 4, none⟩ (.string st.2)).heap[rb]? = _ := hc1.heap h.box (fun e => hne e.symm)
  have ho2 := (own_set h.lst.own (i := (st.1.length - 1) * 5 + 4) (.string st.2))
  have ho3 : ((w.setCell ⟨g, (st.1.length - 1) * 5 + 4, none⟩ (.string st.2)).setCell ⟨rb, 2, none⟩ (.slice none 0 0)).ownsRow base 53 5 (.slice (some ⟨g, 0, none⟩) st.1.length cap) st.1.length (cs.set ((st.1.length - 1) * 5 + 4) (.string st.2)) :=
    World.ownsRow.kept ho2 (row := some rb) ⟨rfl, rfl, rfl, by simp, fun k hk hne => Below.heap_setCell _ _ _ _ (fun e => hne (by rw [e]))⟩ (.inr (fun e => by injection e with e; exact hne e))
  have hk7 : ∀ q un ns, q ≠ 3 → q ≠ 1 → NAt w base ro q un ns → NAt ((w.setCell ⟨g, (st.1.length - 1) * 5 + 4, none⟩ (.string st.2)).setCell ⟨rb, 2, none⟩ (.slice none 0 0)) base ro q un ns := fun q un ns h1 h2 h3 => h3.ch hc (fun b hb => by rcases hro b hb with e | e <;> omega)
  obtain ⟨un, uc, e5, hnn, hcc⟩ := h.lst.last hn
  refine ⟨⟨?_, h.rrb, h.rmb, fun b hb => ⟨(h.all b hb).1, Nat.lt_of_lt_of_le (h.all b hb).2 hc.size⟩, h.lst.put hn (by decide) ho3 h.lst.role (fun un ns h7 => hk7 7 un ns (by decide) (by decide) h7) ⟨un, uc, by rw [e5]; rfl, hk7 5 _ _ (by decide) (by decide) hnn, hk7 6 _ _ (by decide) (by decide) hcc⟩, World.ownsRow_nil _ _ _ _, (fun g hg => by cases hg), ?_, by show (setL _ _).length ≤ _; rw [setL_len]; exact h.few, fun y hy => ?_⟩, hc.weak fun b _ hm => by (have := hro b hm); show ro b ≠ 0; omega, hc.block mb h.seen.lt (fun hm => by have := h.rmb; rcases hro mb hm with e | e <;> omega)⟩
  · have := blk_set hb1 2 (.slice none 0 0)
    simpa using this
  · exact (h.seen.block (hc.block mb h.seen.lt (fun hm => by have := h.rmb; rcases hro mb hm with e | e <;> omega))).as (setL_len _ _) (fun a b => dupV_set _ _ a b rfl rfl)
  · rcases mem_setL hy with h1 | rfl
    · exact h.txt y h1
    · exact h.txt (lastV st.1) (List.mem_of_getElem? (lastV_get _ hn))
theorem RdAt.norec {w : World} {base rb mb : Nat} {ro : Nat → Nat} {vl vr : Value} {cs : List Value} {st : RSt} (h : RdAt w base rb mb ro vl vr cs st) :
    RdAt (w.setCell ⟨rb, 2, none⟩ (.slice none 0 0)) base rb mb ro vl (.slice none 0 0) cs (st.1, ⟨#[]⟩) ∧ Ch w (w.setCell ⟨rb, 2, none⟩ (.slice none 0 0)) (Rdr ro) ∧ (w.setCell ⟨rb, 2, none⟩ (.slice none 0 0)).heap[mb]? = w.heap[mb]? := by
  have hc : Ch w (w.setCell ⟨rb, 2, none⟩ (.slice none 0 0)) (fun b => b = rb) := Ch.setCell (M := fun b => b = rb) (Ch.refl w _) (p := ⟨rb, 2, none⟩) rfl _
  refine ⟨⟨?_, h.rrb, h.rmb, fun b hb => ⟨(h.all b hb).1, Nat.lt_of_lt_of_le (h.all b hb).2 hc.size⟩, h.lst.ch hc (fun b hb => by have := h.rrb; rw [hb]; omega), World.ownsRow_nil _ _ _ _, (fun g hg => by cases hg), h.seen.block (hc.block mb h.seen.lt (fun e => h.rb_mb e.symm)), h.few, h.txt⟩, hc.weak fun b _ hm => by (have := h.rrb); show ro b ≠ 0; rw [hm]; omega, hc.block mb h.seen.lt (fun e => h.rb_mb e.symm)⟩
  have := blk_set h.box 2 (.slice none 0 0)
  simpa using this
def ClosePost (w : World) (base rb mb : Nat) (ro : Nat → Nat) (vl : Value) (st : RSt) (e : Ending) (w' : World) : Prop :=
  e = .returned (.tuple #[]) ∧ (∃ cs', RdAt w' base rb mb ro vl (.slice none 0 0) cs' (closeS st, ⟨#[]⟩)) ∧ Ch w w' (Rdr ro) ∧ w'.heap[mb]? = w.heap[mb]?
set_option maxRecDepth 100000 in
set_option maxHeartbeats 2000000 in
theorem close_any (w : World) (base rb mb : Nat) (ro : Nat → Nat) (vl vr : Value) (cs : List Value) (st : RSt) (h : RdAt w base rb mb ro vl vr cs st) :
    Calls Tryz.prog 41 #[.pointer (some ⟨rb, 0, none⟩)] w (ClosePost w base rb mb ro vl st) := by
  have HL := Lib.hid (last_any w base rb mb ro vl vr cs st h)
  by_cases hn : st.1.length = 0
  · have HF := Lib.hid (show closeS st = st.1 by unfold closeS setL; rw [List.length_eq_zero_iff.1 hn]; rfl)
    obtain ⟨A, c, hvl⟩ := own_form h.lst.own
    have hP : lastP vl st.1.length = .pointer none := by
      rw [hvl]
      unfold lastP
      split
      · rw [if_pos hn]
      · rfl
    rw [hP] at HL
    have HH := Lib.hid h
    clear h hn hvl hP
    go_enter Tryz.func41, Tryz.ntmps41
    go_wp2_with (go_at_call 78; refine HL.out.mono ?_; rintro e w1 ⟨rfl, nq, rfl⟩
                 have hq := HH.out.ch ((Ch.refl w (fun _ => False)).drewN nq) (fun b hb => hb.elim)
                 obtain ⟨c0, c1, c2, f0, f1, f2⟩ := hq.cells)
    go_end0
    obtain ⟨h1, h2, h3⟩ := hq.norec
    exact ⟨rfl, ⟨_, by rw [HF.out]; exact h1⟩, ((Ch.refl w _).drewN nq).trans h2 (fun k _ hk => hk), h3.trans (by rw [heap_drewN])⟩
  · obtain ⟨g, cap, rfl, hb, hg, hr, hP⟩ := h.lst.form hn
    rw [hP] at HL
    have HH := Lib.hid h
    have HN := Lib.hid hn
    clear h hn hP hb hg hr
    go_enter Tryz.func41, Tryz.ntmps41
    go_wp2_with (go_at_call 78; refine HL.out.mono ?_; rintro e w1 ⟨rfl, nq, rfl⟩
                 have hq := HH.out.ch ((Ch.refl w (fun _ => False)).drewN nq) (fun b hb => hb.elim)
                 obtain ⟨c0, c1, c2, f0, f1, f2⟩ := hq.cells
                 have hcv := convert_own (P := Tryz.prog) (src := 51) (dst := 9) (l := st.2.data.toList) (wr := w.drewN nq) (base := base) (E := 5) (v := vr) (by rw [len_data]; exact hq.rcp) Tryz.underlying51 Tryz.underlying5 Tryz.underlying9
                 rw [show strOf st.2.data.toList = st.2 from strL_list st.2] at hcv
                 obtain ⟨un, uc, e5, hnn, hcc⟩ := hq.lst.last HN.out
                 obtain ⟨d4, g4⟩ := own_cell5 hq.lst.own (j := (st.1.length - 1) * 5 + 4) (u := .string (lastV st.1).recipe) (five_get e5 rfl)
                 have hbb : ((w.drewN nq).setCell ⟨g, (st.1.length - 1) * 5 + 4, none⟩ (.string st.2)).heap[rb]? = _ := (Below.heap_setCell _ _ _ _ (show rb ≠ g from fun e => by have h1 := hq.rrb; have h2 := hq.lst.role g rfl; rw [e, h2] at h1; cases h1)).trans hq.box
                 have k2 : ((w.drewN nq).setCell ⟨g, (st.1.length - 1) * 5 + 4, none⟩ (.string st.2)).cell? ⟨rb, 2, none⟩ = some vr := by rw [blk_cell hbb]; rfl
                 have l2 := blk_free hbb 2)
    go_end0
    obtain ⟨h1, h2, h3⟩ := hq.closed HN.out
    exact ⟨rfl, ⟨_, h1⟩, ((Ch.refl w _).drewN nq).trans h2 (fun k _ hk => hk), h3.trans (by rw [heap_drewN])⟩
end Go.Proofs.YtcnedecmmplmoaaGreatDoor
