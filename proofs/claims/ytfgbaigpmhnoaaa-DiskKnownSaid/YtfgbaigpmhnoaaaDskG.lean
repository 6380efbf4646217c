/- disk: what Append does. -/
import Derived.Test.YtfgbaigpmhnoaaaDskE0
import Derived.Deep.RegionLaw
import Derived.Deep.AppendLies
set_option linter.unusedVariables false
set_option linter.unusedSimpArgs false
namespace Go.Proofs.Ytfgbaigpmhnoaaa
open Go.RowKit Go.BigFrame Go.Maps
open Dsk (Fl St Ok get put drop used)

theorem own_sl {w : World} {base n : Nat} {e : TypeId} {v : Value} {xs : List Value} (h : w.ownsRow base e 1 v n xs) : ∃ A cap, v = .slice A n cap := by
  rcases h.2 with ⟨e1, e2⟩ | ⟨g, cap, cur, e1, _⟩
  · exact ⟨none, 0, by rw [e1, e2]⟩
  · exact ⟨_, cap, e1⟩
theorem run_app_holds {P : Program} {w : World} (t ty : TypeId) (base : Nat) (e : TypeId) (i : TypeInfo) (ht : P.underlying t = some (.slice e)) (hi : P.info? e = some i) (hz : i.zero = some (.int .u8 0)) (hs1 : i.size = 1) (hb1 : i.bytes = 1)
    (v : Value) (n : Nat) (xs : List Value) (hown : w.ownsRow base e 1 v n xs) (B : Nat) (A : Option Addr) (m c : Nat) (d : Nat → Nat) (hr : Holds w B A m d) (hA : A = none → c = 0) (hmc : m ≤ c) (h63 : n + m ≤ maxLen) (hbytes : n + m ≤ 140737488355328) (hbase : base ≤ w.heap.size) :
    ∃ A' cap' w', (Builtin.append_ #[t, t] ty #[v, .slice A m c]).run P w = .ok (.slice A' (n + m) cap') w' ∧ w'.ownsRow base e 1 (.slice A' (n + m) cap') (n + m) (xs ++ cells d m) ∧ w.grownBy w' v.ownBlock ∧ Moved w v (.slice A' (n + m) cap') := by
  cases A with
  | none =>
    obtain rfl := hA rfl
    obtain rfl : m = 0 := by omega
    have hrun := run_append_owned_none (P := P) (w := w) base t ty e i 1 ht hi v n xs hown
    obtain ⟨A', cap', rfl⟩ := own_sl hown
    exact ⟨A', cap', w, hrun, by simpa [cells] using hown, World.grownBy.refl w _, Moved.refl w _⟩
  | some ad =>
    have hnews : ∀ j u, (cells d m)[j]? = some u → w.cell? (ad.add j) = some u := by
      intro j u hu
      have hj : j < m := by
        have := (List.getElem?_eq_some_iff.1 hu).1
        rwa [cells_len] at this
      obtain ⟨ad', e', _, hc⟩ := hr (by omega)
      cases e'
      rw [cells_get _ _ _ hj] at hu
      rw [hc j hj, hu]
    have h1 : ∀ u ∈ cells d m, u.oneCell' = true := by
      intro u hu
      simp [cells] at hu
      obtain ⟨_, _, rfl⟩ := hu
      rfl
    have hl : (cells d m).length = m * 1 := by rw [cells_len, Nat.mul_one]
    obtain ⟨v', w', h2, h3, h4, _⟩ := run_append_own (P := P) (w := w) base t ty e i (.int .u8 0) 1 1 ht hi hz hs1 hb1 rfl (by decide) v n xs hown ad m c (cells d m) hl hnews h1 h63 (by omega) hbase
    have hm := append_moved base t ty e i (.int .u8 0) 1 1 ht hi hz hs1 hb1 rfl (by decide) v n xs hown ad m c (cells d m) hl hnews h1 h63 (by omega) v' w' h2
    obtain ⟨A', cap', rfl⟩ := own_sl h3
    exact ⟨A', cap', w', h2, h3, h4, hm⟩
/-- append of bytes that a slice holds, as a step of a region that draws. -/
theorem step_app_holds {P : Program} {ops : Array Oper} {o : Oper} {a : Act} {w : World} {K : Act → World → Prop} {Q : Exit → Act → World → Prop} {E : Prop} (hgd : o.guard = none) (s x : Operand) (t : TypeId)
    (ho : o.op = .call { callee := .builtin .append, args := #[s, x], argTypes := #[t, t] }) (base : Nat) (e : TypeId) (i : TypeInfo) (ht : P.underlying t = some (.slice e)) (hi : P.info? e = some i) (hz : i.zero = some (.int .u8 0)) (hs1 : i.size = 1) (hb1 : i.bytes = 1)
    (v : Value) (n : Nat) (xs : List Value) (hs : a.eval s = v) (hown : w.ownsRow base e 1 v n xs) (B : Nat) (A : Option Addr) (m c : Nat) (d : Nat → Nat) (hx : a.eval x = .slice A m c) (hr : Holds w B A m d) (hA : A = none → c = 0) (hmc : m ≤ c)
    (h63 : n + m ≤ maxLen) (hbytes : n + m ≤ 140737488355328) (hbase : base ≤ w.heap.size)
    (h : ∀ A' cap' w', w'.ownsRow base e 1 (.slice A' (n + m) cap') (n + m) (xs ++ cells d m) → w.grownBy w' v.ownBlock → Moved w v (.slice A' (n + m) cap') → K (a.put o.dst (.slice A' (n + m) cap')) w') :
    if Region.wanted o (yielded ops a.tmps) = true then Oper.wp P o a w K Q else E := by
  have hw : Region.wanted o (yielded ops a.tmps) = true := by simp [Region.wanted, hgd]
  rw [if_pos hw]
  obtain ⟨A', cap', w', h2, h3, h4, h5⟩ := run_app_holds (P := P) t o.type base e i ht hi hz hs1 hb1 v n xs hown B A m c d hr hA hmc h63 hbytes hbase
  unfold Oper.wp
  simp [execOp, ho, resolve, invoke, builtin, hs, hx, h2, Result.andThen]
  exact h A' cap' w' h3 h4 h5
theorem infoU8 : (Try.prog.info? 5).map (fun i => (i.zero, i.size, i.bytes)) = some (some (.int .u8 0), 1, 1) := by kernel_rfl
/-- Another block is the disk's. -/
theorem DiskIn.add {w : World} {base db mb n : Nat} {D : DataW Unit} {av : Value} {ro : Nat → Role} {S : St} (h : DiskIn w base db mb n D av ro S) {fb : Nat} (hf : ro fb = .none) (hb : base ≤ fb) (hl : fb < w.heap.size) (r : Role) : DiskIn w base db mb n D av (fun b => if b = fb then r else ro b) S := by
  have hk : ∀ b q, ro b = q → q ≠ .none → (if b = fb then r else ro b) = q := fun b q e hq => by
    rw [if_neg (fun e2 => by rw [e2, hf] at e; exact hq e.symm)]; exact e
  refine ⟨h.blk, h.own, h.bnd, hk _ _ h.rdb (by simp), hk _ _ h.rmb (by simp), fun b hb' => ?_, h.has, ?_, fun s f hs => ?_, h.ok⟩
  · by_cases e : b = fb
    · subst e; exact ⟨hb, hl⟩
    · rw [if_neg e] at hb'; exact h.old b hb'
  · rcases h.arm with h1 | ⟨k, ab, h1, h2, h3, h4⟩
    · exact .inl h1
    · exact .inr ⟨k, ab, h1, h2, hk _ _ h3 (by simp), h4⟩
  · obtain ⟨fb', v, h1, h2⟩ := h.file s f hs
    exact ⟨fb', v, h1, hk _ _ h2.rfb (by simp), h2.blk, h2.row, fun g hg => hk _ _ (h2.rrow g hg) (by simp)⟩
/-- The roles behind a put. -/
def roPut (ro : Nat → Role) (s : ByteArray) (fb : Nat) (v : Value) (b : Nat) : Role := if b = fb then .file s else if v.ownBlock = some b then .row s else unname ro s b
theorem ok_put {S : St} (h : Ok S) (s : ByteArray) (f : Fl) (hf : f.sure ≤ f.b.length) (hb : ∀ x ∈ f.b, x < 256) (hl : f.b.length ≤ 8388608) (h0 : 0 < s.size) (h1 : s.size ≤ 128) (u : Nat) (hu : used (put S.fs s f) = u) (hq : (u : Int) ≤ S.quota) (hsum : u ≤ 1000000000000) (hfew : (put S.fs s f).length ≤ S.steps) : Ok { S with fs := put S.fs s f } := by
  refine ⟨h.q0, h.qm, Dsk.Sorted.put _ _ _ h.sorted, hfew, h.low, by show ((used (put S.fs s f) : Nat) : Int) ≤ _; rw [hu]; exact hq, by show used (put S.fs s f) ≤ _; rw [hu]; exact hsum, fun t g hg => ?_, h.arm⟩
  by_cases e : t = s
  · subst e
    rw [Dsk.get_put_same] at hg; cases hg
    exact ⟨hf, hb, hl, h0, h1⟩
  · rw [Dsk.get_put_other _ _ _ _ e] at hg; exact h.file t g hg
/-- A name has a file: out of what lies in memory. -/
theorem DiskIn.putIn {w w' : World} {base db mb n n' : Nat} {D D' : DataW Unit} {av : Value} {ro : Nat → Role} {S S' : St} {M : Nat → Prop} (h : DiskIn w base db mb n D av ro S) (s : ByteArray) (fb : Nat) (v : Value) (f : Fl) (hc : Ch w w' M)
    (hm : ∀ b, b < w.heap.size → M b → ro b = .disk ∨ ro b = .map ∨ ro b = .file s ∨ ro b = .row s ∨ ro b = .none) (hrf : ro fb = .file s) (hfb : base ≤ fb ∧ fb < w'.heap.size) (hv : ∀ g, v.ownBlock = some g → g ≠ fb ∧ (ro g = .row s ∨ (ro g = .none ∧ w.heap.size ≤ g)))
    (hb : w'.heap[db]? = some (.cells (diskCells mb av S') 58 (0, 0))) (hblk : w'.heap[fb]? = some (.cells #[v, .int .i64 (f.sure : Int), .bool f.ever] 64 (0, 0))) (hrow : w'.ownsRow base 5 1 v f.b.length (bvs f.b))
    (hown : w'.ownsMap Try.prog 9 ptrElem mb n' D') (hbnd : n' ≤ S'.steps) (hD : ∀ t, t ≠ s → Maps.has D' (kS t) = Maps.has D (kS t) ∧ D'.atKey (kS t) .nil = D.atKey (kS t) .nil) (hg : S'.fs = put S.fs s f)
    (hs : Maps.has D' (kS s) = true) (hat : D'.atKey (kS s) .nil = .lit (.int .i64 ((fb : Nat) : Int))) (harm : S'.armed = S.armed) (hok : Ok S') :
    DiskIn w' base db mb n' D' av (roPut ro s fb v) S' ∧ Sub w ro (roPut ro s fb v) := by
  have hne : ∀ b q, ro b = q → q ≠ .none → q ≠ .file s → q ≠ .row s → roPut ro s fb v b = q := fun b q e h1 h2 h3 => by
    unfold roPut
    have e1 : b ≠ fb := fun e' => by rw [e', hrf] at e; exact h2 e.symm
    have e2 : v.ownBlock ≠ some b := fun e' => by
      rcases (hv b e').2 with h4 | ⟨h4, _⟩
      · exact h3 (e.symm.trans h4)
      · exact h1 (e.symm.trans h4)
    rw [if_neg e1, if_neg e2]
    exact unname_id e h2 h3
  refine ⟨h.turns (fun t => t = s) hc (fun b t ht hbt hM => ?_) (fun b hbr => ?_) (fun b hbn => ?_) hb hown hbnd hD (fun t ht => by rw [hg]; exact Dsk.get_put_other _ _ _ _ ht) (fun t e => by subst e; rw [hg, Dsk.get_put_same]; exact hs) (fun t e g hgt => ?_) ?_ hok, fun b hb' hbo => ?_⟩
  · have hbl : b < w.heap.size := (h.old b (by rcases hbt with e | e <;> rw [e] <;> simp)).2
    rcases hm b hbl hM with h1 | h1 | h1 | h1 | h1 <;> rcases hbt with e | e <;> rw [e] at h1 <;> cases h1 <;> exact ht rfl
  · rcases hbr with e | e | ⟨t, ht, e | e⟩
    · rw [hne b _ e (by simp) (by simp) (by simp), e]
    · rw [hne b _ e (by simp) (by simp) (by simp), e]
    · rw [hne b _ e (by simp) (fun e' => by cases e'; exact ht rfl) (by simp), e]
    · rw [hne b _ e (by simp) (by simp) (fun e' => by cases e'; exact ht rfl), e]
  · unfold roPut at hbn
    by_cases e1 : b = fb
    · subst e1; exact hfb
    · rw [if_neg e1] at hbn
      by_cases e2 : v.ownBlock = some b
      · have := hrow.lt b e2; exact ⟨this.1, this.2⟩
      · rw [if_neg e2] at hbn
        have h1 := unname_some hbn
        have h2 := h.old b (by rw [← h1.1]; exact hbn)
        exact ⟨h2.1, Nat.lt_of_lt_of_le h2.2 hc.size⟩
  · subst e
    rw [hg, Dsk.get_put_same] at hgt; cases hgt
    exact ⟨fb, v, hat, by unfold roPut; rw [if_pos rfl], hblk, hrow, fun g hg' => by unfold roPut; rw [if_neg (hv g hg').1, if_pos hg']⟩
  · rw [harm]
    rcases h.arm with h1 | ⟨k, ab, h1, h2, h3, h4⟩
    · exact .inl h1
    · refine .inr ⟨k, ab, h1, h2, hne _ _ h3 (by simp) (by simp) (by simp), hc.heap h4 fun hM => ?_⟩
      rcases hm ab (block_lt h4) hM with e | e | e | e | e <;> rw [h3] at e <;> cases e
  · unfold Own roPut at hbo
    unfold Own
    by_cases e1 : b = fb
    · subst e1; rw [hrf]; simp
    · rw [if_neg e1] at hbo
      by_cases e2 : v.ownBlock = some b
      · rcases (hv b e2).2 with e3 | ⟨_, e3⟩
        · rw [e3]; simp
        · omega
      · rw [if_neg e2] at hbo
        have := unname_some hbo
        rw [← this.1]; exact hbo
end Go.Proofs.Ytfgbaigpmhnoaaa
