/- disk: step. -/
import Derived.Test.YtfgbaigpmhnoaaaDmC
set_option linter.unusedVariables false
set_option linter.unusedSimpArgs false
namespace Go.Proofs.Ytfgbaigpmhnoaaa
open Go.RowKit Go.BigFrame Go.Maps
open Dsk (Fl St Ok get put drop used)

/-- What a step leaves behind what it does; what it answers. -/
def stepS (S : St) : St := match S.armed with
  | none => S
  | some 0 => { S with off := true, armed := none }
  | some (k + 1) => { S with armed := some k }
def stepC (a : Option Nat) : Int := if a = some 0 then 40 else 0
def plus1 (S : St) : St := { S with steps := S.steps + 1 }
def world1 (w : World) (db : Nat) (S : St) : World := w.setCell ⟨db, 3, none⟩ (.int .i64 ((S.steps : Int) + 1))
theorem ok_plus {S : St} (h : Ok S) (hs : S.steps < 1000000000) : Ok (plus1 S) := ⟨h.q0, h.qm, h.sorted, by have := h.few; show S.fs.length ≤ S.steps + 1; omega, by show S.steps + 1 ≤ _; omega, h.fit, h.sum, h.file, h.arm⟩
theorem DiskIn.plus {w : World} {base db mb n : Nat} {D : DataW Unit} {av : Value} {ro : Nat → Role} {S : St} (h : DiskIn w base db mb n D av ro S) (hs : S.steps < 1000000000) : DiskIn (world1 w db S) base db mb n D av ro (plus1 S) ∧ Left w (world1 w db S) base db ro (plus1 S) ro := by
  have hc : Ch w (world1 w db S) (fun b => b = db) := (Ch.refl w (fun b => b = db)).setCell (p := ⟨db, 3, none⟩) rfl _
  have hb : (world1 w db S).heap[db]? = some (.cells (diskCells mb av (plus1 S)) 58 (0, 0)) := by
    unfold world1
    rw [blk_set h.blk 3 _]
    unfold diskCells plus1
    simp
  have ha : ArmAt (world1 w db S) ro av (plus1 S).armed := h.arm.ch hc fun b hab hM => by subst hM; rw [h.rdb] at hab; cases hab
  refine ⟨h.flip hc (fun b hb _ => by subst hb; exact .inl h.rdb) (fun _ _ => rfl) (fun b hb => ⟨(h.old b hb).1, Nat.lt_of_lt_of_le (h.old b hb).2 hc.size⟩) hb rfl (Nat.le_succ _) ha (ok_plus h.ok hs), ?_⟩
  exact Left.flip h hc hb rfl (Nat.le_succ _) ha (ok_plus h.ok hs)
/-- What is armed is counted down. -/
theorem Left.down {w : World} {base db mb n ab k : Nat} {D : DataW Unit} {ro : Nat → Role} {S : St} (h : DiskIn w base db mb n D (.pointer (some ⟨ab, 0, none⟩)) ro S) (hab : ro ab = .arm) (ha : S.armed = some (k + 1)) (hb : w.heap[ab]? = some (.cells #[.int .i64 ((k + 1 : Nat) : Int)] 3 (0, 0))) :
    Left w (w.setCell ⟨ab, 0, none⟩ (.int .i64 (k : Int))) base db ro { S with armed := some k } ro := by
  have hc : Ch w (w.setCell ⟨ab, 0, none⟩ (.int .i64 (k : Int))) (fun b => b = ab) := (Ch.refl w (fun b => b = ab)).setCell (p := ⟨ab, 0, none⟩) rfl _
  have hne : db ≠ ab := fun e => by rw [← e, h.rdb] at hab; cases hab
  refine ⟨⟨mb, n, D, _, h.flip hc (fun b hb _ => by subst hb; exact .inr (.inl hab)) (fun _ _ => rfl) (fun b hb => ⟨(h.old b hb).1, Nat.lt_of_lt_of_le (h.old b hb).2 hc.size⟩) (hc.heap h.blk hne) rfl (Nat.le_refl _) (.inr ⟨k, ab, rfl, rfl, hab, by rw [blk_set hb 0 _]; rfl⟩) (ok_with h.ok (some k) S.off (fun j e => by cases e; have := h.ok.arm _ ha; omega))⟩, Sub.refl _ _, hc.weak fun b _ hb => by subst hb; unfold Own; rw [hab]; simp⟩
theorem stepS_none {S : St} (h : S.armed = none) : stepS S = S := by unfold stepS; rw [h]
theorem stepS_zero {S : St} (h : S.armed = some 0) : stepS S = { S with off := true, armed := none } := by unfold stepS; rw [h]
theorem stepS_succ {S : St} {k : Nat} (h : S.armed = some (k + 1)) : stepS S = { S with armed := some k } := by unfold stepS; rw [h]
/-- The state behind a step. -/
def stepEnd (S S2 : St) (puts : Bool) : St := if S.armed = some 0 ∧ puts = false then { plus1 S with off := true, armed := none } else stepS S2
end Go.Proofs.Ytfgbaigpmhnoaaa
