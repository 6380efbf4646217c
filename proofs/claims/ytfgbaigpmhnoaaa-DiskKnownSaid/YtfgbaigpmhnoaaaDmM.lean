/- disk: recover. -/
import Derived.Test.YtfgbaigpmhnoaaaDmK
set_option linter.unusedVariables false
set_option linter.unusedSimpArgs false
namespace Go.Proofs.Ytfgbaigpmhnoaaa
open Go.RowKit Go.BigFrame Go.Maps
open Dsk (Fl St Ok get put drop used)

/-- How many open bytes stay. -/
def staysN (n : Int) (o : Nat) : Nat := (n % ((o : Int) + 1)).toNat
theorem staysN_le (n : Int) (o : Nat) : staysN n o ≤ o := by
  unfold staysN
  have h1 := Int.emod_lt_of_pos n (show (0 : Int) < (o : Int) + 1 by omega)
  omega
theorem stays_if (n : Int) (o : Nat) : ∃ t : Int, n.tmod ((o : Int) + 1) = t ∧ -(o : Int) ≤ t ∧ t ≤ (o : Int) ∧ (0 ≤ t → (staysN n o : Int) = t) ∧ (t < 0 → (staysN n o : Int) = t + ((o : Int) + 1)) := by
  have hp : (0 : Int) < (o : Int) + 1 := by omega
  have h1 := Int.emod_nonneg n (show (o : Int) + 1 ≠ 0 by omega)
  have h2 := Int.emod_lt_of_pos n hp
  have h3 := Int.emod_nonneg (-n) (show (o : Int) + 1 ≠ 0 by omega)
  have h4 := Int.emod_lt_of_pos (-n) hp
  refine ⟨_, rfl, ?_⟩
  unfold staysN
  by_cases hn : 0 ≤ n
  · rw [Int.tmod_eq_emod_of_nonneg hn]
    omega
  · have e : n.tmod ((o : Int) + 1) = -((-n) % ((o : Int) + 1)) := by
      have := Int.neg_tmod (-n) ((o : Int) + 1)
      rw [Int.neg_neg] at this
      rw [this, Int.tmod_eq_emod_of_nonneg (by omega)]
    rw [e]
    have hs : (n + -n) % ((o : Int) + 1) = 0 := by simp [Int.add_right_neg]
    rw [Int.add_emod] at hs
    generalize n % ((o : Int) + 1) = a at *
    generalize (-n) % ((o : Int) + 1) = b at *
    have hab : a + b = 0 ∨ a + b = (o : Int) + 1 := by
      by_cases c : a + b < (o : Int) + 1
      · left
        rwa [Int.emod_eq_of_lt (by omega) c] at hs
      · right
        have h5 : (a + b - ((o : Int) + 1)) % ((o : Int) + 1) = 0 := by rw [Int.sub_emod_right]; exact hs
        rw [Int.emod_eq_of_lt (by omega) (by omega)] at h5
        omega
    omega
def recF (f : Fl) (n : Int) : Fl := ⟨f.b.take (f.sure + staysN n (f.b.length - f.sure)), f.sure + staysN n (f.b.length - f.sure), true⟩
def recFs (fs : Dsk.FS) (s : ByteArray) (f : Fl) (n : Int) : Dsk.FS := if (recF f n).sure = 0 ∧ f.ever = false then drop fs s else put fs s (recF f n)
theorem recF_len (f : Fl) (n : Int) (h : f.sure ≤ f.b.length) : (recF f n).b.length = (recF f n).sure ∧ (recF f n).sure ≤ f.b.length := by
  have := staysN_le n (f.b.length - f.sure)
  unfold recF
  simp only [List.length_take]
  omega
/-- Used, and the file's slice, cut. -/
def cutW (w : World) (db fb : Nat) (u : Nat) (A : Option Addr) (m cap : Nat) : World := (w.setCell ⟨db, 2, none⟩ (.int .i64 (u : Int))).drew.setCell ⟨fb, 0, none⟩ (.slice A m cap)
theorem cutW_facts {w : World} {base db mb n fb u m L cap : Nat} {D : DataW Unit} {av : Value} {ro : Nat → Role} {S : St} {s : ByteArray} {A : Option Addr} {f : Fl} (h : DiskIn w base db mb n D av ro S) (hfa : FileAt w base ro s fb (.slice A L cap) f) (hL : L = f.b.length) (hm : m ≤ L) :
    Ch w (cutW w db fb u A m cap) (fun b => b = fb ∨ b = db) ∧ (cutW w db fb u A m cap).heap[db]? = some (.cells ((diskCells mb av S).setIfInBounds 2 (.int .i64 (u : Int))) 58 (0, 0)) ∧ (cutW w db fb u A m cap).heap[fb]? = some (.cells #[.slice A m cap, .int .i64 (f.sure : Int), .bool f.ever] 64 (0, 0)) ∧ (cutW w db fb u A m cap).ownsRow base 5 1 (.slice A m cap) m (bvs (f.b.take m)) := by
  have hfd : fb ≠ db := fun e => by have := hfa.rfb; rw [e, h.rdb] at this; cases this
  have hc : Ch w (cutW w db fb u A m cap) (fun b => b = fb ∨ b = db) := (((Ch.refl w (fun b => b = fb ∨ b = db)).setCell (p := ⟨db, 2, none⟩) (.inr rfl) _).drew).setCell (p := ⟨fb, 0, none⟩) (.inl rfl) _
  refine ⟨hc, (heap_setCell_other _ _ _ _ (Ne.symm hfd)).trans (blk_set h.blk 2 _), ?_, ?_⟩
  · have h1 : ((w.setCell ⟨db, 2, none⟩ (.int .i64 (u : Int))).drew).heap[fb]? = some (.cells #[.slice A L cap, .int .i64 (f.sure : Int), .bool f.ever] 64 (0, 0)) := (heap_setCell_other w _ _ _ hfd).trans hfa.blk
    exact (blk_set h1 0 _).trans rfl
  · refine hc.own ?_ (fun b hb hM => ?_)
    · have hr := hfa.row
      rw [show bvs (f.b.take m) = (bvs f.b).take m by simp [bvs]]
      cases A with
      | none =>
        rcases hr.2 with ⟨e1, e2⟩ | ⟨g, cap', cur, e1, _⟩
        · simp only [Value.slice.injEq] at e1
          obtain ⟨_, e3, e4⟩ := e1
          obtain rfl : m = 0 := by omega
          rw [e4]
          exact World.ownsRow_nil _ _ _ _
        · cases e1
      | some p => exact own_cut (hL ▸ hr) (by simp) hm
    · have hb' : ro b = .row s := hfa.rrow b (by rw [← hb]; cases A <;> rfl)
      rcases hM with e | e
      · rw [e, hfa.rfb] at hb'; cases hb'
      · rw [e, h.rdb] at hb'; cases hb'
end Go.Proofs.Ytfgbaigpmhnoaaa

/- disk: recover, walked. -/
namespace Go.Proofs.Ytfgbaigpmhnoaaa
open Go.RowKit Go.BigFrame Go.Maps
open Dsk (Fl St Ok get put drop used)

theorem rec_keep {w : World} {base db mb n fb u L cap : Nat} {k : Int} {D : DataW Unit} {av : Value} {ro : Nat → Role} {S : St} {s : ByteArray} {A : Option Addr} {f : Fl} (h : DiskIn w base db mb n D av ro S) (hg : get S.fs s = some f) (hat : D.atKey (kS s) .nil = .lit (.int .i64 ((fb : Nat) : Int))) (hfa : FileAt w base ro s fb (.slice A L cap) f) (hL : L = f.b.length)
    (hu : u + f.b.length = used S.fs + (recF f k).sure) (hk : ¬ ((recF f k).sure = 0 ∧ f.ever = false)) :
    Left w (settled (cutW w db fb u A (recF f k).sure cap) fb (recF f k).sure) base db ro { S with fs := recFs S.fs s f k } (roPut ro s fb (.slice A (recF f k).sure cap)) := by
  have hf := h.ok.file s f hg
  obtain ⟨hl1, hl2⟩ := recF_len f k hf.1
  obtain ⟨m, hm⟩ : ∃ m, m = (recF f k).sure := ⟨_, rfl⟩
  rw [← hm] at hl1 hl2 hu ⊢
  obtain ⟨hc, hb1, hb2, hb3⟩ := cutW_facts (u := u) (m := m) h hfa hL (by omega)
  have hu2 := Dsk.used_put S.fs s (recF f k) h.ok.sorted
  rw [hg, hl1] at hu2
  simp only [Dsk.lenO] at hu2
  have hfd : fb ≠ db := fun e => by have := hfa.rfb; rw [e, h.rdb] at this; cases this
  have hc2 := settled_ch (cutW w db fb u A m cap) fb m
  have hrb : ∀ b, (Value.slice A m cap).ownBlock = some b → ro b = .row s := fun b hb => hfa.rrow b (by rw [← hb]; cases A <;> rfl)
  have hfs : recFs S.fs s f k = put S.fs s (recF f k) := by unfold recFs; rw [if_neg hk]
  refine (h.fileTurn (S' := { S with fs := recFs S.fs s f k }) (f' := recF f k) (v' := .slice A m cap) hg hat hfa (hc.trans hc2 (fun b _ e => .inl e)) ?_ ?_ ?_ (fun g hg => by cases A <;> exact hg) hfs (Nat.le_refl _) rfl ?_).2
  · rw [hc2.heap hb1 (Ne.symm hfd)]
    unfold diskCells
    dsimp only
    rw [hfs, show used (put S.fs s (recF f k)) = u by omega]
    rfl
  · rw [settled_blk hb2, ← hm]; rfl
  · rw [hl1]
    have hx : (recF f k).b = f.b.take m := by rw [hm]; rfl
    rw [hx]
    exact hc2.own hb3 fun b hb hM => by
      have h1 := hrb b hb
      rw [hM, hfa.rfb] at h1; cases h1
  · have := ok_settle h.ok hg (recF f k) (by rw [hl1, hm]; exact Nat.le_refl _) (fun x hx => hf.2.1 x (List.mem_of_mem_take hx)) (by rw [hl1]; exact hl2)
    rw [hfs]
    exact this
theorem rec_gone {w w' : World} {base db mb n fb u L cap : Nat} {k : Int} {D : DataW Unit} {av : Value} {ro : Nat → Role} {S : St} {s : ByteArray} {A : Option Addr} {f : Fl} (h : DiskIn w base db mb n D av ro S) (hg : get S.fs s = some f) (hfa : FileAt w base ro s fb (.slice A L cap) f) (hL : L = f.b.length)
    (hu : u + f.b.length = used S.fs) (hk : (recF f k).sure = 0 ∧ f.ever = false) (ho : w'.ownsMap Try.prog 9 ptrElem mb n (D.del (kS s))) (ht : (cutW w db fb u A 0 cap).grownBy w' (some mb)) :
    Left w w' base db ro { S with fs := recFs S.fs s f k } (unname ro s) := by
  obtain ⟨hc, hb1, hb2, hb3⟩ := cutW_facts (u := u) (m := 0) h hfa hL (by omega)
  have hmd : mb ≠ db := fun e => by have := h.rmb; rw [e, h.rdb] at this; cases this
  have hud : used (drop S.fs s) = u := by have := Dsk.used_drop S.fs s; rw [hg] at this; simp only [Dsk.lenO] at this; omega
  have hfs : recFs S.fs s f k = drop S.fs s := by unfold recFs; rw [if_pos hk]
  have hc2 : Ch w w' (fun b => b = fb ∨ b = db ∨ b = mb) := (hc.weak (fun b _ e => by rcases e with e | e; exact .inl e; exact .inr (.inl e))).grown ht (fun b _ e => .inr (.inr (Option.some.inj e).symm))
  have hro : ∀ b, (ro b = .disk ∨ ro b = .map ∨ ∃ t, ¬ t = s ∧ (ro b = .file t ∨ ro b = .row t)) → unname ro s b = ro b := fun b hb => by
    rcases hb with hb | hb | ⟨t, ht, hb | hb⟩
    · rw [unname_id hb (by simp) (by simp), hb]
    · rw [unname_id hb (by simp) (by simp), hb]
    · rw [unname_id hb (fun e => by cases e; exact ht rfl) (by simp), hb]
    · rw [unname_id hb (by simp) (fun e => by cases e; exact ht rfl), hb]
  rw [hfs]
  refine ⟨⟨mb, n, D.del (kS s), av, ?_⟩, fun b hb ho => (by unfold Own at ho ⊢; rw [← (unname_some ho).1]; exact ho), hc2.weak fun b _ e => ?_⟩
  · refine h.turns (fun t => t = s) hc2 (fun b t hne hb hM => ?_) hro (fun b hb => by have := unname_some hb; have h2 := h.old b (by rw [← this.1]; exact hb); exact ⟨h2.1, Nat.lt_of_lt_of_le h2.2 hc2.size⟩) ?_ ho h.bnd (fun t ht => ?_) (fun t ht => Dsk.get_drop_other _ _ _ ht) (fun t e => ?_) (fun t e f hf => ?_) ?_ (ok_drop h.ok s)
    · rcases hM with e | e | e
      · subst e; rw [hfa.rfb] at hb; rcases hb with hb | hb <;> cases hb; exact hne rfl
      · subst e; rw [h.rdb] at hb; rcases hb with hb | hb <;> cases hb
      · subst e; rw [h.rmb] at hb; rcases hb with hb | hb <;> cases hb
    · rw [ht.block db (block_lt hb1) (fun e => hmd (Option.some.inj e).symm), hb1]
      unfold diskCells
      dsimp only
      rw [hud]
      rfl
    · have hne : kS t ≠ kS s := fun e => ht (kS_inj e)
      exact ⟨has_del_other hne, atKey_del_other hne _⟩
    · subst e
      rw [Dsk.get_drop_same _ _ h.ok.sorted]
      exact has_del_same
    · subst e; rw [Dsk.get_drop_same _ _ h.ok.sorted] at hf; cases hf
    · rcases h.arm with h1 | ⟨k, ab, h1, h2, h3, h4⟩
      · exact .inl h1
      · refine .inr ⟨k, ab, h1, h2, unname_id h3 (by simp) (by simp), hc2.heap h4 fun hM => ?_⟩
        rcases hM with e | e | e
        · rw [e, hfa.rfb] at h3; cases h3
        · rw [e, h.rdb] at h3; cases h3
        · rw [e, h.rmb] at h3; cases h3
  · unfold Own
    rcases e with e | e | e
    · rw [e, hfa.rfb]; simp
    · rw [e, h.rdb]; simp
    · rw [e, h.rmb]; simp
set_option maxRecDepth 100000 in
set_option maxHeartbeats 4000000 in
theorem recover_any (w : World) (base db mb n : Nat) (D : DataW Unit) (av : Value) (ro : Nat → Role) (S : St) (s : ByteArray) (f : Fl) (k : Int) (h : DiskIn w base db mb n D av ro S) (hg : get S.fs s = some f) (hs : s.size ≤ maxLen) :
    Calls Try.prog 44 #[.pointer (some ⟨db, 0, none⟩), .string s, .int .i64 k] w (DoneR w base db ro { S with fs := recFs S.fs s f k } (.tuple #[])) := by
  obtain ⟨f', fb, v, hg', hrun, hat, hfa⟩ : ∃ f' fb v, get S.fs s = some f' ∧ (Instr.lookup 55 (.map (some mb)) (.string s) false).run Try.prog w = .ok (.pointer (some ⟨fb, 0, none⟩)) w ∧ D.atKey (kS s) .nil = .lit (.int .i64 ((fb : Nat) : Int)) ∧ FileAt w base ro s fb v f' := by
    rcases h.look s hs with ⟨e, _⟩ | h
    · rw [hg] at e; cases e
    · exact h
  obtain rfl : f = f' := by rw [hg] at hg'; exact Option.some.inj hg'
  clear hg'
  obtain ⟨A, cap, rfl⟩ := own_sl hfa.row
  have hcap : f.b.length ≤ cap ∧ (A = none → cap = 0) := by
    rcases hfa.row.2 with ⟨e1, e2⟩ | ⟨g, cap', cur, e1, _, _, e3, _⟩
    · simp only [Value.slice.injEq] at e1
      exact ⟨by omega, fun _ => e1.2.2⟩
    · cases e1; exact ⟨e3, fun h => by cases h⟩
  have hfl := h.ok.file s f hg
  have hle := Dsk.len_le hg
  have hsum := h.ok.sum
  obtain ⟨hl1, hl2⟩ := recF_len f k hfl.1
  obtain ⟨t, ht, ht1, ht2, ht3, ht4⟩ := stays_if k (f.b.length - f.sure)
  obtain ⟨o, ho⟩ : ∃ o : Nat, o = f.b.length - f.sure := ⟨_, rfl⟩
  obtain ⟨q, hq⟩ : ∃ q : Nat, q = staysN k (f.b.length - f.sure) := ⟨_, rfl⟩
  obtain ⟨u, hu⟩ : ∃ u : Nat, u + f.b.length = used S.fs + (recF f k).sure := ⟨used S.fs + (recF f k).sure - f.b.length, by omega⟩
  have hrs : (recF f k).sure = f.sure + q := by rw [hq]; rfl
  have hql : q ≤ o := by rw [hq, ho]; exact staysN_le _ _
  rw [← hq] at ht3 ht4
  rw [← ho] at ht ht1 ht2 ht4
  have hld : Left w (w.drewN 1) base db ro S ro := ⟨⟨mb, n, D, av, h.drewN 1⟩, Sub.refl _ _, (Ch.refl _ _).drewN 1⟩
  have hfa' : FileAt (w.drewN 1) base ro s fb (.slice A f.b.length cap) f := hfa.ch ((Ch.refl w (fun _ => False)).drewN 1) (fun _ _ h => h)
  have hmd : mb ≠ db := fun e => by have := h.rmb; rw [e, h.rdb] at this; cases this
  have hmf : mb ≠ fb := fun e => by have := h.rmb; rw [e, hfa.rfb] at this; cases this
  obtain ⟨m, hm⟩ : ∃ m, m = f.sure + q := ⟨_, rfl⟩
  rw [← hm] at hrs
  have HK := Lib.hid (fun (hk : ¬ (m = 0 ∧ f.ever = false)) => show DoneR w base db ro { S with fs := recFs S.fs s f k } (.tuple #[]) (.returned (.tuple #[])) (settled (cutW w.drew db fb u A m cap) fb m) from
    ⟨rfl, _, hld.trans (by have e := rec_keep (k := k) (h.drewN 1) hg hat hfa' rfl hu (by rw [hrs]; exact hk); rw [hrs] at e; exact e)⟩)
  have HG := Lib.hid (fun (hk : m = 0 ∧ f.ever = false) (w' : World) (ho : w'.ownsMap Try.prog 9 ptrElem mb n (D.del (kS s))) (ht : (cutW w.drew db fb u A m cap).grownBy w' (some mb)) => show DoneR w base db ro { S with fs := recFs S.fs s f k } (.tuple #[]) (.returned (.tuple #[])) w' from
    ⟨rfl, _, hld.trans (rec_gone (k := k) (u := u) (h.drewN 1) hg hfa' rfl (by rw [hrs, hk.1] at hu; exact hu) (by rw [hrs]; exact hk) ho (by rw [hk.1] at ht; exact ht))⟩)
  have HC := Lib.hid (cutW_facts (u := u) (m := m) (h.drewN 1) hfa' rfl (by omega))
  have HOM := Lib.hid (own_map_ch (h.drewN 1).own HC.out.1 (fun hM => by rcases hM with e | e; exact hmf e; exact hmd e))
  obtain ⟨_, c1, c2, _, _, _⟩ := h.cells
  have f2 := h.free 2
  have g0 : w.cell? ⟨fb, 0, none⟩ = some (.slice A f.b.length cap) := by rw [blk_cell hfa.blk]; rfl
  have g1 : w.cell? ⟨fb, 1, none⟩ = some (.int .i64 (f.sure : Int)) := by rw [blk_cell hfa.blk]; rfl
  have HFB := Lib.hid hfa.blk
  have hfd : fb ≠ db := fun e => by have := hfa.rfb; rw [e, h.rdb] at this; cases this
  generalize DoneR w base db ro { S with fs := recFs S.fs s f k } (.tuple #[]) = post at *
  have hsb := hfl.1
  have hbl := hfl.2.2.1
  have hsub : (f.b.length : Int) - (f.sure : Int) = (o : Int) := by omega
  generalize hL : f.b.length = L at *
  clear h hg hat hfl hld hq hl1 hl2 hfa hfa'
  go_enter Try.func44, Try.ntmps44
  go_upto_region 1 with (fail)
  go_still_tail 10, (by kernel_rfl)
  change wpList _ _ _ _ _ w.drew
  have hwo : ((L - f.sure : Nat) : Int) = (o : Int) := by omega
  go_upto_region 2 with (fail)
  rw [hwo, show IntKind.i64.wrap (o : Int) = (o : Int) from IntWalk.i64_in _ (by omega)]
  clear hwo
  have HSUB := Lib.hid hsub
  have hob : o ≤ 8388608 := by omega
  have hz1 : ((o : Int) + 1 == 0) = false := by simp; omega
  have hz2 : ¬ ((o : Int) + 1 = 0) := by omega
  have hz3 : ¬ (o + 1 = 0) := by omega
  clear hsub ho
  go_upto_region 3 with (fail)
  clear ht hz1 hz2 hz3
  have hsub' := HSUB.out
  generalize hU : used S.fs = U at *
  have HOU := Lib.hid (show (U : Int) - ((o : Int) - (q : Int)) = (u : Int) by omega)
  have hUl : U ≤ 1000000000000 := by omega
  have hUq : o ≤ U := by omega
  have hul : u ≤ 1000000000000 := by omega
  have HU := Lib.hid hu
  have hcl : f.sure + q ≤ cap := by omega
  have HRS := Lib.hid hrs
  clear hu hU hsum hsub' hle hrs
  by_cases hneg : t < 0
  · have hq2 := (ht4 hneg).symm
    clear ht3 ht4
    go_upto_region 6 with (fail)
    rw [HOU.out]
    obtain ⟨w2, hw2⟩ : ∃ w2, w2 = (w.setCell ⟨db, 2, none⟩ (.int .i64 (u : Int))).drew := ⟨_, rfl⟩
    have HW2 := Lib.hid hw2
    have g0' : w2.cell? ⟨fb, 0, none⟩ = some (.slice A L cap) := by rw [hw2]; exact setCell_far g0 hfd
    have g1' : w2.cell? ⟨fb, 1, none⟩ = some (.int .i64 (f.sure : Int)) := by rw [hw2]; exact setCell_far g1 hfd
    rw [← hw2]
    clear hw2 g0 g1
    have hwm : IntKind.i64.wrap ((f.sure : Int) + (q : Int)) = ((f.sure + q : Nat) : Int) := by rw [show (f.sure : Int) + (q : Int) = ((f.sure + q : Nat) : Int) by omega]; exact IntWalk.i64_in _ (by omega)
    have hif : 0 ≤ (f.sure : Int) + (q : Int) ∧ (f.sure : Int) + (q : Int) ≤ (cap : Int) := by omega
    have htn : ((f.sure : Int) + (q : Int)).toNat = f.sure + q := by omega
    go_still_tail 14, (by kernel_rfl)
    change wpList _ _ _ _ _ w2.drew
    have g0'' : w2.drew.cell? ⟨fb, 0, none⟩ = some (.slice A L cap) := g0'
    have fr : w2.drew.frozen? ⟨fb, 0, none⟩ = false := by have := blk_free HFB.out 0; rw [← this, HW2.out]; exact World.frozen?_setCell _ _ _ _
    obtain ⟨w3, hw3⟩ : ∃ w3, w3 = w2.drew := ⟨_, rfl⟩
    rw [← hw3] at g0'' fr ⊢
    have HW3 := Lib.hid hw3
    clear g0' g1' hw3
    go_upto_region 7 with (fail)
    rw [← hm]
    obtain ⟨w4, hw4⟩ : ∃ w4, w4 = w3.setCell ⟨fb, 0, none⟩ (.slice A m cap) := ⟨_, rfl⟩
    have e4 : w4 = cutW (w.drewN 1) db fb u A m cap := by rw [hw4, HW3.out, HW2.out]; rfl
    rw [← hw4]
    have HE4 := Lib.hid e4
    clear hw4
    have k0 : w4.cell? ⟨fb, 0, none⟩ = some (.slice A m cap) := by rw [e4, blk_cell HC.out.2.2.1]; rfl
    have k2 : w4.cell? ⟨fb, 2, none⟩ = some (.bool f.ever) := by rw [e4, blk_cell HC.out.2.2.1]; rfl
    have k1 : w4.cell? ⟨db, 1, none⟩ = some (.map (some mb)) := by rw [e4, blk_cell HC.out.2.1]; rfl
    have HOM4 := Lib.hid (show w4.ownsMap Try.prog 9 ptrElem mb n D by rw [e4]; exact HOM.out)
    have hml : m ≤ 8388608 := by have := HSUB.out; omega
    clear e4 fr g0'' hm hwm hif htn
    by_cases hz : m = 0
    · have hz1 : ((m : Int) == 0) = true := by simp [hz]
      cases hev : f.ever with
      | false =>
        rw [hev] at k2
        have hz2 : (m : Int) = 0 := by omega
        go_wp2_with (at_delete; refine wpList_delete_own _ rfl _ _ 55 9 rfl 62 keyStr Try.underlying55 ptrElem mb n D rfl HOM4.out _ (kS s) rfl (Go.WideMaps.keyOf_string_mk Try.underlying9 hs) ?_)
        intro w5 hown5 hturn5
        have HQ := Lib.hid (HG.out ⟨hz, hev⟩ w5 hown5 (by have e := hturn5.grown; rw [HE4.out] at e; exact e))
        clear hown5 hturn5 HK HG HC HOM
        go_wp2
        go_end0
        exact HQ.out
      | true =>
        rw [hev] at k2
        have hz2 : (m : Int) = 0 := by omega
        have HST := Lib.hid (settle_any w4 fb m cap A _ _ (by rw [HE4.out]; exact HC.out.2.2.1))
        go_wp2_with fail
        refine HST.out.mono ?_
        rintro e w5 ⟨rfl, hw5⟩
        have HQ := Lib.hid (show post (.returned (.tuple #[])) w5 from by rw [hw5, HE4.out]; exact HK.out (fun h => by rw [hev] at h; cases h.2))
        clear hw5 HK HG HC HOM HST
        go_wp2
        go_end0
        exact HQ.out
    · have hz1 : ((m : Int) == 0) = false := by simp; omega
      have hz2 : ¬ ((m : Int) = 0) := by omega
      have HST := Lib.hid (settle_any w4 fb m cap A _ _ (by rw [HE4.out]; exact HC.out.2.2.1))
      go_wp2_with fail
      refine HST.out.mono ?_
      rintro e w5 ⟨rfl, hw5⟩
      have HQ := Lib.hid (show post (.returned (.tuple #[])) w5 from by rw [hw5, HE4.out]; exact HK.out (fun h => hz h.1))
      clear hw5 HK HG HC HOM HST
      go_wp2
      go_end0
      exact HQ.out
  · have hq2 := ht3 (by omega)
    subst hq2
    clear ht3 ht4
    go_upto_region 6 with (fail)
    rw [HOU.out]
    obtain ⟨w2, hw2⟩ : ∃ w2, w2 = (w.setCell ⟨db, 2, none⟩ (.int .i64 (u : Int))).drew := ⟨_, rfl⟩
    have HW2 := Lib.hid hw2
    have g0' : w2.cell? ⟨fb, 0, none⟩ = some (.slice A L cap) := by rw [hw2]; exact setCell_far g0 hfd
    have g1' : w2.cell? ⟨fb, 1, none⟩ = some (.int .i64 (f.sure : Int)) := by rw [hw2]; exact setCell_far g1 hfd
    rw [← hw2]
    clear hw2 g0 g1
    have hwm : IntKind.i64.wrap ((f.sure : Int) + (q : Int)) = ((f.sure + q : Nat) : Int) := by rw [show (f.sure : Int) + (q : Int) = ((f.sure + q : Nat) : Int) by omega]; exact IntWalk.i64_in _ (by omega)
    have hif : 0 ≤ (f.sure : Int) + (q : Int) ∧ (f.sure : Int) + (q : Int) ≤ (cap : Int) := by omega
    have htn : ((f.sure : Int) + (q : Int)).toNat = f.sure + q := by omega
    go_still_tail 14, (by kernel_rfl)
    change wpList _ _ _ _ _ w2.drew
    have g0'' : w2.drew.cell? ⟨fb, 0, none⟩ = some (.slice A L cap) := g0'
    have fr : w2.drew.frozen? ⟨fb, 0, none⟩ = false := by have := blk_free HFB.out 0; rw [← this, HW2.out]; exact World.frozen?_setCell _ _ _ _
    obtain ⟨w3, hw3⟩ : ∃ w3, w3 = w2.drew := ⟨_, rfl⟩
    rw [← hw3] at g0'' fr ⊢
    have HW3 := Lib.hid hw3
    clear g0' g1' hw3
    go_upto_region 7 with (fail)
    rw [← hm]
    obtain ⟨w4, hw4⟩ : ∃ w4, w4 = w3.setCell ⟨fb, 0, none⟩ (.slice A m cap) := ⟨_, rfl⟩
    have e4 : w4 = cutW (w.drewN 1) db fb u A m cap := by rw [hw4, HW3.out, HW2.out]; rfl
    rw [← hw4]
    have HE4 := Lib.hid e4
    clear hw4
    have k0 : w4.cell? ⟨fb, 0, none⟩ = some (.slice A m cap) := by rw [e4, blk_cell HC.out.2.2.1]; rfl
    have k2 : w4.cell? ⟨fb, 2, none⟩ = some (.bool f.ever) := by rw [e4, blk_cell HC.out.2.2.1]; rfl
    have k1 : w4.cell? ⟨db, 1, none⟩ = some (.map (some mb)) := by rw [e4, blk_cell HC.out.2.1]; rfl
    have HOM4 := Lib.hid (show w4.ownsMap Try.prog 9 ptrElem mb n D by rw [e4]; exact HOM.out)
    have hml : m ≤ 8388608 := by have := HSUB.out; omega
    clear e4 fr g0'' hm hwm hif htn
    by_cases hz : m = 0
    · have hz1 : ((m : Int) == 0) = true := by simp [hz]
      cases hev : f.ever with
      | false =>
        rw [hev] at k2
        have hz2 : (m : Int) = 0 := by omega
        go_wp2_with (at_delete; refine wpList_delete_own _ rfl _ _ 55 9 rfl 62 keyStr Try.underlying55 ptrElem mb n D rfl HOM4.out _ (kS s) rfl (Go.WideMaps.keyOf_string_mk Try.underlying9 hs) ?_)
        intro w5 hown5 hturn5
        have HQ := Lib.hid (HG.out ⟨hz, hev⟩ w5 hown5 (by have e := hturn5.grown; rw [HE4.out] at e; exact e))
        clear hown5 hturn5 HK HG HC HOM
        go_wp2
        go_end0
        exact HQ.out
      | true =>
        rw [hev] at k2
        have hz2 : (m : Int) = 0 := by omega
        have HST := Lib.hid (settle_any w4 fb m cap A _ _ (by rw [HE4.out]; exact HC.out.2.2.1))
        go_wp2_with fail
        refine HST.out.mono ?_
        rintro e w5 ⟨rfl, hw5⟩
        have HQ := Lib.hid (show post (.returned (.tuple #[])) w5 from by rw [hw5, HE4.out]; exact HK.out (fun h => by rw [hev] at h; cases h.2))
        clear hw5 HK HG HC HOM HST
        go_wp2
        go_end0
        exact HQ.out
    · have hz1 : ((m : Int) == 0) = false := by simp; omega
      have hz2 : ¬ ((m : Int) = 0) := by omega
      have HST := Lib.hid (settle_any w4 fb m cap A _ _ (by rw [HE4.out]; exact HC.out.2.2.1))
      go_wp2_with fail
      refine HST.out.mono ?_
      rintro e w5 ⟨rfl, hw5⟩
      have HQ := Lib.hid (show post (.returned (.tuple #[])) w5 from by rw [hw5, HE4.out]; exact HK.out (fun h => hz h.1))
      clear hw5 HK HG HC HOM HST
      go_wp2
      go_end0
      exact HQ.out
end Go.Proofs.Ytfgbaigpmhnoaaa
