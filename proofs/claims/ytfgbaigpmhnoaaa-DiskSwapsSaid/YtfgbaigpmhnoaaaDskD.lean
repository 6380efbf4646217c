/- disk: settle, hold, drop. -/
import Derived.Test.YtfgbaigpmhnoaaaDskC
set_option linter.unusedVariables false
set_option linter.unusedSimpArgs false
namespace Go.Proofs.Ytfgbaigpmhnoaaa
open Go.RowKit Go.BigFrame Go.Maps
open Dsk (Fl St Ok get put drop used)

/-- Some names' files turn. -/
theorem DiskIn.turns {w w' : World} {base db mb n n' : Nat} {D D' : DataW Unit} {av av' : Value} {ro ro' : Nat → Role} {S S' : St} {M : Nat → Prop} (h : DiskIn w base db mb n D av ro S) (X : ByteArray → Prop) (hc : Ch w w' M)
    (hm : ∀ b t, ¬ X t → ro b = .file t ∨ ro b = .row t → ¬ M b) (hr : ∀ b, (ro b = .disk ∨ ro b = .map ∨ ∃ t, ¬ X t ∧ (ro b = .file t ∨ ro b = .row t)) → ro' b = ro b) (hn : ∀ b, ro' b ≠ .none → base ≤ b ∧ b < w'.heap.size)
    (hb : w'.heap[db]? = some (.cells (diskCells mb av' S') 58 (0, 0))) (hown : w'.ownsMap Try.prog 9 ptrElem mb n' D') (hbnd : n' ≤ S'.steps)
    (hD : ∀ t, ¬ X t → Maps.has D' (kS t) = Maps.has D (kS t) ∧ D'.atKey (kS t) .nil = D.atKey (kS t) .nil) (hg : ∀ t, ¬ X t → get S'.fs t = get S.fs t)
    (hs : ∀ s, X s → Maps.has D' (kS s) = (get S'.fs s).isSome) (hf : ∀ s, X s → ∀ f, get S'.fs s = some f → ∃ fb v, D'.atKey (kS s) .nil = .lit (.int .i64 ((fb : Nat) : Int)) ∧ FileAt w' base ro' s fb v f)
    (ha : ArmAt w' ro' av' S'.armed) (hok : Ok S') : DiskIn w' base db mb n' D' av' ro' S' := by
  refine ⟨hb, hown, hbnd, by rw [hr _ (.inl h.rdb), h.rdb], by rw [hr _ (.inr (.inl h.rmb)), h.rmb], hn, fun t => ?_, ha, fun t f hft => ?_, hok⟩
  · by_cases e : X t
    · exact hs t e
    · rw [(hD t e).1, hg t e]; exact h.has t
  · by_cases e : X t
    · exact hf t e f hft
    · rw [hg t e] at hft
      obtain ⟨fb, v, h1, h2⟩ := h.file t f hft
      have h3 := h2.ch hc fun b hb => hm b t e hb
      exact ⟨fb, v, by rw [(hD t e).2]; exact h1, (hr _ (.inr (.inr ⟨t, e, .inl h3.rfb⟩))).trans h3.rfb, h3.blk, h3.row, fun g hg' => (hr _ (.inr (.inr ⟨t, e, .inr (h3.rrow g hg')⟩))).trans (h3.rrow g hg')⟩
def settled (w : World) (fb len : Nat) : World := (w.setCell ⟨fb, 1, none⟩ (.int .i64 (len : Int))).setCell ⟨fb, 2, none⟩ (.bool true)
theorem settled_blk {w : World} {fb len : Nat} {v u x : Value} {T : TypeId} (h : w.heap[fb]? = some (.cells #[v, u, x] T (0, 0))) : (settled w fb len).heap[fb]? = some (.cells #[v, .int .i64 (len : Int), .bool true] T (0, 0)) := by
  unfold settled
  rw [blk_set (blk_set h 1 _) 2 _]; rfl
theorem settled_ch (w : World) (fb len : Nat) : Ch w (settled w fb len) (fun b => b = fb) := ((Ch.refl w (fun b => b = fb)).setCell (p := ⟨fb, 1, none⟩) rfl _).setCell (p := ⟨fb, 2, none⟩) rfl _
set_option maxRecDepth 100000 in
set_option maxHeartbeats 800000 in
theorem settle_any (w : World) (fb len cap : Nat) (A : Option Addr) (u x : Value) (h : w.heap[fb]? = some (.cells #[.slice A len cap, u, x] 64 (0, 0))) :
    Calls Try.prog 43 #[.pointer (some ⟨fb, 0, none⟩)] w fun e w' => e = .returned (.tuple #[]) ∧ w' = settled w fb len := by
  have HQ := Lib.hid (show (fun e w' => e = Ending.returned (.tuple #[]) ∧ w' = settled w fb len) (.returned (.tuple #[])) ((w.setCell ⟨fb, 1, none⟩ (.int .i64 (len : Int))).setCell ⟨fb, 2, none⟩ (.bool true)) from ⟨rfl, rfl⟩)
  generalize (fun e w' => e = Ending.returned (.tuple #[]) ∧ w' = settled w fb len) = post at *
  have c0 : w.cell? ⟨fb, 0, none⟩ = some (.slice A len cap) := by rw [blk_cell h]; rfl
  have c1 : w.cell? ⟨fb, 1, none⟩ = some u := by rw [blk_cell h]; rfl
  have c2 : w.cell? ⟨fb, 2, none⟩ = some x := by rw [blk_cell h]; rfl
  have f1 := blk_free h 1
  have f2 := blk_free h 2
  clear h
  go_enter Try.func43, Try.ntmps43
  go_wp2
  go_end0
  exact HQ.out
def HoldPost (w : World) (mb n : Nat) (D : DataW Unit) (s : ByteArray) (fb : Nat) (e : Ending) (w' : World) : Prop :=
  e = .returned (.tuple #[]) ∧ w'.ownsMap Try.prog 9 ptrElem mb (n + 1) (D.put (kS s) (.lit (.int .i64 ((fb : Nat) : Int)))) ∧ w.grownBy w' (some mb)
set_option maxRecDepth 100000 in
set_option maxHeartbeats 800000 in
theorem hold_any (w : World) (db mb n : Nat) (D : DataW Unit) (s : ByteArray) (fb : Nat) (hs : s.size ≤ maxLen) (hn : n ≤ 1000000000) (c1 : w.cell? ⟨db, 1, none⟩ = some (.map (some mb))) (ho : w.ownsMap Try.prog 9 ptrElem mb n D) :
    Calls Try.prog 41 #[.pointer (some ⟨db, 0, none⟩), .string s, .pointer (some ⟨fb, 0, none⟩)] w (HoldPost w mb n D s fb) := by
  have HP := Lib.hid (fun (w' : World) (h1 : w'.ownsMap Try.prog 9 ptrElem mb (n + 1) (D.put (kS s) (.lit (.int .i64 ((fb : Nat) : Int))))) (h2 : w.grownBy w' (some mb)) => show HoldPost w mb n D s fb (.returned (.tuple #[])) w' from ⟨rfl, h1, h2⟩)
  generalize HoldPost w mb n D s fb = post at *
  have HO := Lib.hid ho
  have HS := Lib.hid hs
  have hmn : ∀ w, (binOp .eql 55 (.map (some mb)) (.map none)).run Try.prog w = .ok (.bool false) w := fun w => run_eql_map_nil w _ 9 62 (some mb) Try.underlying55
  clear ho hs
  go_enter Try.func41, Try.ntmps41
  go_wp2_with (at_mapUpdate; refine wpList_mapUpdate_own _ rfl _ _ _ 55 rfl 9 62 keyStr Try.underlying55 ptrElem mb n D rfl HO.out (by unfold maxLen; omega) _ _ (kS s) rfl rfl (Go.WideMaps.keyOf_string_mk Try.underlying9 HS.out) (.lit (.int .i64 ((fb : Nat) : Int))) [] rfl ?_)
  intro w1 hown1 hgrow1
  have HQ := Lib.hid (HP.out w1 hown1 hgrow1)
  clear hown1 hgrow1 HP HO
  go_wp2
  go_end0
  exact HQ.out
/-- A name's blocks are the disk's no more. -/
def unname (ro : Nat → Role) (s : ByteArray) (b : Nat) : Role := match ro b with
  | .file t => if t = s then .none else .file t
  | .row t => if t = s then .none else .row t
  | r => r
theorem unname_other {ro : Nat → Role} {s : ByteArray} {b : Nat} (h : ro b ≠ .file s) (h2 : ro b ≠ .row s) : unname ro s b = ro b := by
  unfold unname
  cases hr : ro b with
  | file t => dsimp only; rw [if_neg]; intro e; subst e; exact h hr
  | row t => dsimp only; rw [if_neg]; intro e; subst e; exact h2 hr
  | _ => rfl
theorem unname_some {ro : Nat → Role} {s : ByteArray} {b : Nat} (h : unname ro s b ≠ .none) : unname ro s b = ro b ∧ ro b ≠ .file s ∧ ro b ≠ .row s := by
  unfold unname at *
  cases hr : ro b with
  | file t =>
    rw [hr] at h; dsimp only at h ⊢
    split at h
    · exact absurd rfl h
    · rename_i hne; rw [if_neg hne]; exact ⟨rfl, (fun e => by cases e; exact hne rfl), by simp⟩
  | row t =>
    rw [hr] at h; dsimp only at h ⊢
    split at h
    · exact absurd rfl h
    · rename_i hne; rw [if_neg hne]; exact ⟨rfl, by simp, (fun e => by cases e; exact hne rfl)⟩
  | none => exact ⟨rfl, by simp, by simp⟩
  | disk => exact ⟨rfl, by simp, by simp⟩
  | map => exact ⟨rfl, by simp, by simp⟩
  | arm => exact ⟨rfl, by simp, by simp⟩
theorem unname_id {ro : Nat → Role} {s : ByteArray} {b : Nat} {r : Role} (h : ro b = r) (h1 : r ≠ .file s) (h2 : r ≠ .row s) : unname ro s b = r := by rw [unname_other (by rw [h]; exact h1) (by rw [h]; exact h2), h]
theorem drop_none : ∀ {fs : Dsk.FS} {s : ByteArray}, get fs s = none → drop fs s = fs
  | [], s, _ => rfl
  | (t, g) :: r, s, h => by
    unfold Dsk.get at h
    split at h
    · cases h
    · rename_i hne; unfold Dsk.drop; rw [if_neg hne, drop_none h]
theorem ok_drop {S : St} (h : Ok S) (s : ByteArray) : Ok { S with fs := drop S.fs s } := by
  have hu := Dsk.used_drop S.fs s
  refine ⟨h.q0, h.qm, Dsk.Sorted.drop _ _ h.sorted, Nat.le_trans (Dsk.len_drop _ _) h.few, h.low, ?_, ?_, fun t f hf => ?_, h.arm⟩
  · have := h.fit; show ((used (drop S.fs s) : Nat) : Int) ≤ S.quota; omega
  · have := h.sum; show used (drop S.fs s) ≤ _; omega
  · by_cases e : t = s
    · subst e
      have := Dsk.get_drop_same S.fs t h.sorted
      rw [this] at hf; cases hf
    · rw [Dsk.get_drop_other _ _ _ e] at hf; exact h.file t f hf
def DropPost (w : World) (base db mb n : Nat) (D : DataW Unit) (av : Value) (ro : Nat → Role) (S : St) (s : ByteArray) (e : Ending) (w' : World) : Prop :=
  e = .returned (.tuple #[]) ∧ DiskIn w' base db mb n (D.del (kS s)) av (unname ro s) { S with fs := drop S.fs s } ∧ Ch w w' (fun b => b = db ∨ b = mb)
theorem del_none {D : DataW Unit} {s : ByteArray} (h : Maps.has D (kS s) = false) : D.del (kS s) = D := del_of_not_has h
set_option maxRecDepth 100000 in
set_option maxHeartbeats 1600000 in
theorem drop_any (w : World) (base db mb n : Nat) (D : DataW Unit) (av : Value) (ro : Nat → Role) (S : St) (s : ByteArray) (h : DiskIn w base db mb n D av ro S) (hs : s.size ≤ maxLen) :
    Calls Try.prog 46 #[.pointer (some ⟨db, 0, none⟩), .string s] w (DropPost w base db mb n D av ro S s) := by
  obtain ⟨_, c1, c2, _, _, _⟩ := h.cells
  have f2 := h.free 2
  have hum := h.ok.sum
  rcases h.look s hs with ⟨hg, hrun⟩ | ⟨f, fb, v, hg, hrun, hat, hfa⟩
  · have HQ := Lib.hid (show DropPost w base db mb n D av ro S s (.returned (.tuple #[])) w from by
      have hh := h.has s
      rw [hg] at hh
      refine ⟨rfl, ?_, Ch.refl _ _⟩
      rw [del_none hh, drop_none hg]
      have hro : ∀ b, (ro b = .disk ∨ ro b = .map ∨ ∃ t, ¬ t = s ∧ (ro b = .file t ∨ ro b = .row t)) → unname ro s b = ro b := fun b hb => by
        rcases hb with hb | hb | ⟨t, ht, hb | hb⟩
        · rw [unname_id hb (by simp) (by simp), hb]
        · rw [unname_id hb (by simp) (by simp), hb]
        · rw [unname_id hb (fun e => by cases e; exact ht rfl) (by simp), hb]
        · rw [unname_id hb (by simp) (fun e => by cases e; exact ht rfl), hb]
      refine h.turns (fun t => t = s) (Ch.refl w (fun _ => False)) (fun _ _ _ _ h => h) hro (fun b hb => by have := unname_some hb; exact h.old b (by rw [← this.1]; exact hb)) h.blk h.own h.bnd (fun _ _ => ⟨rfl, rfl⟩) (fun _ _ => rfl) (fun t e => by subst e; exact h.has t) (fun t e f hf => by subst e; rw [hg] at hf; cases hf) ?_ h.ok
      rcases h.arm with h1 | ⟨k, ab, h1, h2, h3, h4⟩
      · exact .inl h1
      · exact .inr ⟨k, ab, h1, h2, unname_id h3 (by simp) (by simp), h4⟩)
    generalize DropPost w base db mb n D av ro S s = post at *
    clear h hg
    go_enter Try.func46, Try.ntmps46
    go_wp2
    go_end0
    exact HQ.out
  · obtain ⟨hrow, hrr⟩ := And.intro hfa.row hfa.rrow
    have hfl := h.ok.file s f hg
    have hle := Dsk.len_le hg
    obtain ⟨A, cap, rfl⟩ : ∃ A cap, v = .slice A f.b.length cap := by
      rcases hrow.2 with ⟨e1, e2⟩ | ⟨g, cap, cur, e1, _⟩
      · exact ⟨none, 0, by rw [e1, e2]⟩
      · exact ⟨_, cap, e1⟩
    have hmd : mb ≠ db := fun e => by have := h.rmb; rw [e, h.rdb] at this; cases this
    have cf : w.cell? ⟨fb, 0, none⟩ = some (.slice A f.b.length cap) := by rw [blk_cell hfa.blk]; rfl
    obtain ⟨u, hu⟩ : ∃ u : Nat, u = used S.fs - f.b.length := ⟨_, rfl⟩
    have hud : used (drop S.fs s) = u := by have := Dsk.used_drop S.fs s; rw [hg] at this; simp only [Dsk.lenO] at this; omega
    have hsub : (used S.fs : Int) - (f.b.length : Int) = (u : Int) := by omega
    have HFIN := Lib.hid (fun (w1 : World) (ho : w1.ownsMap Try.prog 9 ptrElem mb n (D.del (kS s))) (hblk : w1.heap[db]? = some (.cells ((diskCells mb av S).setIfInBounds 2 (.int .i64 (u : Int))) 58 (0, 0))) (hc : Ch w w1 (fun b => b = db ∨ b = mb)) => show DropPost w base db mb n D av ro S s (.returned (.tuple #[])) w1 from by
      refine ⟨rfl, ?_, hc⟩
      have hro : ∀ b, (ro b = .disk ∨ ro b = .map ∨ ∃ t, ¬ t = s ∧ (ro b = .file t ∨ ro b = .row t)) → unname ro s b = ro b := fun b hb => by
        rcases hb with hb | hb | ⟨t, ht, hb | hb⟩
        · rw [unname_id hb (by simp) (by simp), hb]
        · rw [unname_id hb (by simp) (by simp), hb]
        · rw [unname_id hb (fun e => by cases e; exact ht rfl) (by simp), hb]
        · rw [unname_id hb (by simp) (fun e => by cases e; exact ht rfl), hb]
      refine h.turns (fun t => t = s) hc (fun b t _ hb hM => ?_) hro (fun b hb => by have := unname_some hb; have h2 := h.old b (by rw [← this.1]; exact hb); exact ⟨h2.1, Nat.lt_of_lt_of_le h2.2 hc.size⟩) ?_ ho h.bnd (fun t ht => ?_) (fun t ht => Dsk.get_drop_other _ _ _ ht) (fun t e => ?_) (fun t e f hf => ?_) ?_ (ok_drop h.ok s)
      · rcases hM with e | e
        · subst e; rw [h.rdb] at hb; rcases hb with hb | hb <;> cases hb
        · subst e; rw [h.rmb] at hb; rcases hb with hb | hb <;> cases hb
      · rw [hblk]
        show some (Obj.cells (diskCells mb av S |>.setIfInBounds 2 (.int .i64 (u : Int))) 58 (0, 0)) = some (.cells (diskCells mb av { S with fs := drop S.fs s }) 58 (0, 0))
        unfold diskCells
        rw [hud]
        rfl
      · have hne : kS t ≠ kS s := fun e => ht (kS_inj e)
        exact ⟨has_del_other hne, atKey_del_other hne _⟩
      · subst e
        rw [Dsk.get_drop_same _ _ h.ok.sorted]
        exact has_del_same
      · subst e; rw [Dsk.get_drop_same _ _ h.ok.sorted] at hf; cases hf
      · rcases h.arm with h1 | ⟨k, ab, h1, h2, h3, h4⟩
        · exact .inl h1
        · refine .inr ⟨k, ab, h1, h2, unname_id h3 (by simp) (by simp), hc.heap h4 fun hM => ?_⟩
          rcases hM with e | e
          · rw [e, h.rdb] at h3; cases h3
          · rw [e, h.rmb] at h3; cases h3)
    have HOWN := Lib.hid (fun (x : Value) => World.ownsMap.setCell h.own (a := ⟨db, 2, none⟩) hmd x)
    have HB := Lib.hid (blk_set h.blk 2 (.int .i64 (u : Int)))
    have HMD := Lib.hid hmd
    have c1' : (w.setCell ⟨db, 2, none⟩ (.int .i64 (u : Int))).cell? ⟨db, 1, none⟩ = some (.map (some mb)) := by rw [blk_cell HB.out]; rfl
    generalize DropPost w base db mb n D av ro S s = post at *
    have hwr : IntKind.i64.wrap ((used S.fs : Int) - (f.b.length : Int)) = (u : Int) := by rw [hsub]; exact IntWalk.i64_in _ (by omega)
    generalize used S.fs = uu at *
    clear h hg hat hfa hrow hrr hfl hle hud hsub hum hmd hu
    go_enter Try.func46, Try.ntmps46
    go_upto_region 2 with (fail)
    go_still_tail 12, (by kernel_rfl)
    change wpList _ _ _ _ _ w.drew
    go_wp2_with (at_delete; refine wpList_delete_own _ rfl _ _ 55 9 rfl 62 keyStr Try.underlying55 ptrElem mb n D rfl (World.ownsMap.drew (HOWN.out _)) _ (kS s) rfl (Go.WideMaps.keyOf_string_mk Try.underlying9 hs) ?_)
    intro w1 hown1 hturn1
    have HQ := Lib.hid (HFIN.out w1 hown1 ((hturn1.grown.block db (block_lt HB.out) (fun e => HMD.out (Option.some.inj e).symm)).trans HB.out) ((((Ch.refl w (fun b => b = db ∨ b = mb)).setCell (p := ⟨db, 2, none⟩) (.inl rfl) _).drew).grown hturn1.grown (fun k _ e => .inr (Option.some.inj e).symm)))
    clear hown1 hturn1 HFIN HOWN HB HMD
    go_wp2
    go_end0
    exact HQ.out
end Go.Proofs.Ytfgbaigpmhnoaaa
