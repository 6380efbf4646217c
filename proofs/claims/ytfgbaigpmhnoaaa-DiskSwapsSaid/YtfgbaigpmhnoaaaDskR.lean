/- disk: a run of calls on a disk of one's own; works. -/
import Derived.Test.YtfgbaigpmhnoaaaDskQ
set_option linter.unusedVariables false
set_option linter.unusedSimpArgs false
namespace Go.Proofs.Ytfgbaigpmhnoaaa
open Go.RowKit Go.BigFrame Go.Maps
open Dsk (Fl St Ok get put drop used)

structure Ses (W0 w : World) (B db : Nat) (ro : Nat → Role) (S : St) : Prop where
  disk : DiskAt w B db ro S
  below : Below B W0 w
  size : B ≤ w.heap.size
theorem own_ge {w : World} {B db : Nat} {ro : Nat → Role} {S : St} (h : DiskAt w B db ro S) {b : Nat} (hb : Own ro b) : B ≤ b := by
  obtain ⟨mb, n, D, av, h⟩ := h
  exact (h.old b hb).1
theorem Ses.left {W0 w w' : World} {B db : Nat} {ro ro' : Nat → Role} {S S' : St} (h : Ses W0 w B db ro S) (hl : Left w w' B db ro S' ro') : Ses W0 w' B db ro' S' :=
  ⟨hl.disk, h.below.trans (hl.ch.below h.size fun _ hk => own_ge h.disk hk), Nat.le_trans h.size hl.ch.size⟩
theorem Ses.grow {W0 w w' : World} {B db : Nat} {ro : Nat → Role} {S : St} (h : Ses W0 w B db ro S) (hb : Below w.heap.size w w') : Ses W0 w' B db ro S :=
  ⟨h.disk.below hb, below_step h.below hb h.size, Nat.le_trans h.size hb.size⟩
theorem Ses.alloc {W0 w : World} {B db : Nat} {ro : Nat → Role} {S : St} (h : Ses W0 w B db ro S) (o : Obj) : Ses W0 (w.alloc o) B db ro S := h.grow ((Below.refl _ _).alloc (Nat.le_refl _) _)
def SesR (W0 : World) (B db : Nat) (S : St) (r : Value) (e : Ending) (w' : World) : Prop := e = .returned r ∧ ∃ ro, Ses W0 w' B db ro S
theorem Ses.done {W0 w : World} {B db : Nat} {ro : Nat → Role} {S S' : St} {r : Value} (h : Ses W0 w B db ro S) {f : FuncId} {args : Array Value} (hc : Calls Try.prog f args w (DoneR w B db ro S' r)) : Calls Try.prog f args w (SesR W0 B db S' r) :=
  hc.mono fun _ _ ⟨he, ro', hl⟩ => ⟨he, ro', h.left hl⟩
theorem ses_new (w : World) (q : Int) (h1 : -9223372036854775808 ≤ q) (h2 : q ≤ 9223372036854775807) : Calls Try.prog 9 #[.int .i64 q] w fun e w' => ∃ db ro, e = .returned (.pointer (some ⟨db, 0, none⟩)) ∧ Ses w w' w.heap.size db ro ⟨if q ≤ 0 then 0 else q, [], 0, none, false⟩ :=
  (new_any q w h1 h2).mono fun _ _ ⟨db, ro, he, hd, hb⟩ => ⟨db, ro, he, hd, hb, hb.size⟩
/-- A literal row of bytes. -/
theorem lit_holds (w : World) (l : List Nat) (vs : Array Value) (hv : vs = (bvs l).toArray) : Holds (w.alloc (.cells vs 5)) (w.alloc (.cells vs 5)).heap.size (some ⟨w.heap.size, 0, none⟩) l.length (fun i => l.getD i 0) := fun _ => by
  refine ⟨_, rfl, by simp, fun j hj => ?_⟩
  subst hv
  have hh : (w.alloc (.cells (bvs l).toArray 5 (0, 0))).heap[w.heap.size]? = some (.cells (bvs l).toArray 5 (0, 0)) := heap_alloc_new w _
  have e : (⟨w.heap.size, 0, none⟩ : Addr).add j = ⟨w.heap.size, j, none⟩ := by unfold Addr.add; by_cases h0 : j = 0 <;> simp [h0]
  rw [e, blk_cell hh]
  simp [bvs, hj, List.getD]
theorem listD_get (l : List Nat) : listD (fun i => l.getD i 0) l.length = l := by
  apply List.ext_getElem?
  intro j
  by_cases hj : j < l.length
  · simp [listD, hj, List.getD]
  · simp [listD, hj]
theorem ses_append {W0 w : World} {B db : Nat} {ro : Nat → Role} {S : St} (h : Ses W0 w B db ro S) (s : ByteArray) (A : Option Addr) (c : Nat) (l : List Nat) (hs : s.size ≤ maxLen) (hr : Holds w w.heap.size A l.length (fun i => l.getD i 0)) (hA : A = none → c = 0) (hmc : l.length ≤ c) (hcm : c ≤ maxLen) (hd : ∀ x ∈ l, x < 256)
    (hst : S.steps < 1000000000) (hsum : used S.fs + l.length ≤ 1000000000000) (hbo : 0 < l.length → ∀ ad, A = some ad → ro ad.block = .none) :
    Calls Try.prog 17 #[.pointer (some ⟨db, 0, none⟩), .string s, .slice A l.length c] w (SesR W0 B db (appendS S s l) (.int .i64 (appendC S s l))) := by
  have := h.done (append_any w B db ro S s A l.length c (fun i => l.getD i 0) h.disk hs hr hA hmc hcm (fun i => by
    by_cases hi : i < l.length
    · rw [List.getD_eq_getElem?_getD, List.getElem?_eq_getElem hi]; exact hd _ (List.getElem_mem _)
    · rw [List.getD_eq_getElem?_getD, List.getElem?_eq_none (by omega)]; decide) h.size hst hsum hbo)
  rw [listD_get] at this
  exact this
theorem ses_sync {W0 w : World} {B db : Nat} {ro : Nat → Role} {S : St} (h : Ses W0 w B db ro S) (s : ByteArray) (hs : s.size ≤ maxLen) (hst : S.steps < 1000000000) : Calls Try.prog 18 #[.pointer (some ⟨db, 0, none⟩), .string s] w (SesR W0 B db (syncS S s) (.int .i64 (syncC S s))) :=
  h.done (sync_any w B db ro S s h.disk hs hst)
theorem ses_crash {W0 w : World} {B db : Nat} {ro : Nat → Role} {S : St} (h : Ses W0 w B db ro S) : Calls Try.prog 19 #[.pointer (some ⟨db, 0, none⟩)] w (SesR W0 B db { S with off := true, armed := none } (.tuple #[])) :=
  h.done (crash_any w B db ro S h.disk)
theorem ses_fail {W0 w : World} {B db : Nat} {ro : Nat → Role} {S : St} (h : Ses W0 w B db ro S) (n : Int) (h1 : -9223372036854775808 ≤ n) (h2 : n ≤ 9223372036854775807) : Calls Try.prog 15 #[.pointer (some ⟨db, 0, none⟩), .int .i64 n] w (SesR W0 B db { S with armed := armOf n } (.tuple #[])) :=
  h.done (fail_any w B db ro S n h.disk h1 h2 h.size)
theorem keep_lit (w : World) (ro : Nat → Role) (ks : List Int) (vs : Array Value) (hv : vs = (ks.map (fun x => Value.int .i64 x)).toArray) (hf : ro w.heap.size = .none) : KeepAt (w.alloc (.cells vs 3)) ro (some ⟨w.heap.size, 0, none⟩) ks := fun j hj => by
  refine ⟨_, rfl, hf, ?_⟩
  subst hv
  have hh : (w.alloc (.cells (ks.map (fun x => Value.int .i64 x)).toArray 3 (0, 0))).heap[w.heap.size]? = some (.cells (ks.map (fun x => Value.int .i64 x)).toArray 3 (0, 0)) := heap_alloc_new w _
  have e : (⟨w.heap.size, 0, none⟩ : Addr).add j = ⟨w.heap.size, j, none⟩ := by unfold Addr.add; by_cases h0 : j = 0 <;> simp [h0]
  rw [e, blk_cell hh]
  simp [hj, List.getD]
theorem ses_on {W0 w : World} {B db : Nat} {ro : Nat → Role} {S : St} (h : Ses W0 w B db ro S) (A : Option Addr) (cap : Nat) (ks : List Int) (hk : KeepAt w ro A ks) (hkl : ks.length ≤ 1000000000) : Calls Try.prog 20 #[.pointer (some ⟨db, 0, none⟩), .slice A ks.length cap] w (SesR W0 B db (onS S ks) (.tuple #[])) :=
  h.done (on_any w B db ro S A cap ks h.disk hk hkl)
def nA : ByteArray := ⟨#[97]⟩
def exS0 : St := ⟨100, [], 0, none, false⟩
def exS1 : St := appendS exS0 nA [1, 2]
def exS2 : St := syncS exS1 nA
def exS3 : St := appendS exS2 nA [3, 4]
def exS4 : St := { exS3 with off := true, armed := none }
def exS5 : St := onS exS4 [1]
theorem ex_steps : exS0.steps = 0 ∧ exS1.steps = 1 ∧ exS2.steps = 2 ∧ used exS0.fs = 0 ∧ used exS1.fs = 2 ∧ used exS2.fs = 2 := ⟨by kernel_rfl, by kernel_rfl, by kernel_rfl, by kernel_rfl, by kernel_rfl, by kernel_rfl⟩
theorem ex_read : readC exS5 nA = 0 ∧ readB exS5 nA = [1, 2, 3] ∧ used exS5.fs = 3 := ⟨by kernel_rfl, by kernel_rfl, by kernel_rfl⟩
end Go.Proofs.Ytfgbaigpmhnoaaa
