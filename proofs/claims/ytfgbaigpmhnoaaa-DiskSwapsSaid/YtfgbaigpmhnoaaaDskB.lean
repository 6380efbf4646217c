/- disk: New, Off, Crash, Fail, Used, Steps. -/
import Derived.Test.YtfgbaigpmhnoaaaDskA
set_option linter.unusedVariables false
set_option linter.unusedSimpArgs false
namespace Go.Proofs.Ytfgbaigpmhnoaaa
open Go.RowKit Go.BigFrame Go.Maps
open Dsk (Fl St Ok get put drop used)

theorem DiskIn.cells {w : World} {base db mb n : Nat} {D : DataW Unit} {av : Value} {ro : Nat → Role} {S : St} (h : DiskIn w base db mb n D av ro S) :
    w.cell? ⟨db, 0, none⟩ = some (.int .i64 S.quota) ∧ w.cell? ⟨db, 1, none⟩ = some (.map (some mb)) ∧ w.cell? ⟨db, 2, none⟩ = some (.int .i64 (used S.fs : Int)) ∧ w.cell? ⟨db, 3, none⟩ = some (.int .i64 (S.steps : Int)) ∧ w.cell? ⟨db, 4, none⟩ = some av ∧ w.cell? ⟨db, 5, none⟩ = some (.bool S.off) := by
  refine ⟨?_, ?_, ?_, ?_, ?_, ?_⟩ <;> · rw [blk_cell h.blk]; rfl
theorem DiskIn.free {w : World} {base db mb n : Nat} {D : DataW Unit} {av : Value} {ro : Nat → Role} {S : St} (h : DiskIn w base db mb n D av ro S) (i : Nat) : w.frozen? ⟨db, i, none⟩ = false := blk_free h.blk i
def DoneR (w : World) (base db : Nat) (ro : Nat → Role) (S' : St) (r : Value) (e : Ending) (w' : World) : Prop := e = .returned r ∧ ∃ ro', Left w w' base db ro S' ro'
theorem off_any (w : World) (base db : Nat) (ro : Nat → Role) (S : St) (h : DiskAt w base db ro S) : Calls Try.prog 16 #[.pointer (some ⟨db, 0, none⟩)] w fun e w' => e = .returned (.bool S.off) ∧ w' = w := by
  obtain ⟨mb, n, D, av, h⟩ := h
  obtain ⟨_, _, _, _, _, h5⟩ := h.cells
  clear h
  go_enter Try.func16, Try.ntmps16
  go_wp2
  go_ret
  exact ⟨rfl, by trivial⟩
theorem used_any (w : World) (base db : Nat) (ro : Nat → Role) (S : St) (h : DiskAt w base db ro S) : Calls Try.prog 24 #[.pointer (some ⟨db, 0, none⟩)] w fun e w' => e = .returned (.int .i64 (used S.fs : Int)) ∧ w' = w := by
  obtain ⟨mb, n, D, av, h⟩ := h
  obtain ⟨_, _, h2, _, _, _⟩ := h.cells
  clear h
  go_enter Try.func24, Try.ntmps24
  go_wp2
  go_ret
  exact ⟨rfl, by trivial⟩
theorem steps_any (w : World) (base db : Nat) (ro : Nat → Role) (S : St) (h : DiskAt w base db ro S) : Calls Try.prog 27 #[.pointer (some ⟨db, 0, none⟩)] w fun e w' => e = .returned (.int .i64 (S.steps : Int)) ∧ w' = w := by
  obtain ⟨mb, n, D, av, h⟩ := h
  obtain ⟨_, _, _, h3, _, _⟩ := h.cells
  clear h
  go_enter Try.func27, Try.ntmps27
  go_wp2
  go_ret
  exact ⟨rfl, by trivial⟩
theorem Left.flip {w w' : World} {base db mb n : Nat} {D : DataW Unit} {av av' : Value} {ro : Nat → Role} {S S' : St} (h : DiskIn w base db mb n D av ro S) (hc : Ch w w' (fun b => b = db))
    (hb : w'.heap[db]? = some (.cells (diskCells mb av' S') 58 (0, 0))) (hfs : S'.fs = S.fs) (hst : S.steps ≤ S'.steps) (ha : ArmAt w' ro av' S'.armed) (hok : Ok S') : Left w w' base db ro S' ro := by
  refine ⟨⟨mb, n, D, av', h.flip hc (fun b hb _ => by subst hb; exact .inl h.rdb) (fun _ _ => rfl) (fun b hb => ⟨(h.old b hb).1, Nat.lt_of_lt_of_le (h.old b hb).2 hc.size⟩) hb hfs hst ha hok⟩, Sub.refl _ _, hc.weak fun b _ hb => by subst hb; unfold Own; rw [h.rdb]; simp⟩
theorem ok_with {S : St} (h : Ok S) (a : Option Nat) (o : Bool) (ha : ∀ k, a = some k → k < 9223372036854775808) : Ok { S with armed := a, off := o } := ⟨h.q0, h.qm, h.sorted, h.few, h.low, h.fit, h.sum, h.file, ha⟩
set_option maxRecDepth 100000 in
set_option maxHeartbeats 800000 in
theorem crash_any (w : World) (base db : Nat) (ro : Nat → Role) (S : St) (h : DiskAt w base db ro S) : Calls Try.prog 19 #[.pointer (some ⟨db, 0, none⟩)] w (DoneR w base db ro { S with off := true, armed := none } (.tuple #[])) := by
  obtain ⟨mb, n, D, av, h⟩ := h
  have HQ := Lib.hid (show DoneR w base db ro { S with off := true, armed := none } (.tuple #[]) (.returned (.tuple #[])) ((w.setCell ⟨db, 5, none⟩ (.bool true)).setCell ⟨db, 4, none⟩ (.pointer none)) from
    ⟨rfl, ro, Left.flip h (((Ch.refl w (fun b => b = db)).setCell (p := ⟨db, 5, none⟩) rfl _).setCell (p := ⟨db, 4, none⟩) rfl _) (av' := .pointer none) (by rw [blk_set (blk_set h.blk 5 (.bool true)) 4 (.pointer none)]; rfl) rfl (Nat.le_refl _) (.inl ⟨rfl, rfl⟩) (ok_with h.ok none true (fun k e => by cases e))⟩)
  generalize DoneR w base db ro { S with off := true, armed := none } (.tuple #[]) = post at *
  have f5 := h.free 5
  have f4 := h.free 4
  obtain ⟨_, _, _, _, h4, h5⟩ := h.cells
  clear h
  go_enter Try.func19, Try.ntmps19
  go_wp2
  go_end0
  exact HQ.out
theorem ok_new (q : Int) (h0 : 0 ≤ q) (h1 : q ≤ 9223372036854775807) : Ok ⟨q, [], 0, none, false⟩ :=
  ⟨h0, h1, List.Pairwise.nil, Nat.le_refl _, by show (0 : Nat) ≤ _; omega, h0, by show (0 : Nat) ≤ _; omega, (fun s f h => by cases h), (fun k h => by cases h)⟩
def NewPost (w : World) (q : Int) (e : Ending) (w' : World) : Prop := ∃ db ro, e = .returned (.pointer (some ⟨db, 0, none⟩)) ∧ DiskAt w' w.heap.size db ro ⟨if q ≤ 0 then 0 else q, [], 0, none, false⟩ ∧ Below w.heap.size w w'
theorem new_at (w : World) (q : Int) (h0 : 0 ≤ q) (h1 : q ≤ 9223372036854775807) : DiskAt ((w.alloc (.map #[] 0)).alloc (.cells #[.int .i64 q, .map (some w.heap.size), .int .i64 0, .int .i64 0, .pointer none, .bool false] 58)) w.heap.size (w.heap.size + 1) (fun b => if b = w.heap.size then .map else if b = w.heap.size + 1 then .disk else .none) ⟨q, [], 0, none, false⟩ := by
  refine ⟨w.heap.size, 0, .map [], .pointer none, ?_⟩
  refine ⟨?_, (World.ownsMap_made w _ _ _).alloc _, Nat.le_refl _, by simp, by simp, ?_, fun s => rfl, .inl ⟨rfl, rfl⟩, (fun s f h => by cases h), ok_new q h0 h1⟩
  · have := heap_alloc_new (w.alloc (.map #[] 0)) (.cells #[.int .i64 q, .map (some w.heap.size), .int .i64 0, .int .i64 0, .pointer none, .bool false] 58)
    rw [World.size_alloc] at this
    exact this
  · intro b hb
    by_cases e : b = w.heap.size
    · subst e; simp; omega
    · by_cases e2 : b = w.heap.size + 1
      · subst e2; simp
      · simp [e, e2] at hb
set_option maxRecDepth 100000 in
set_option maxHeartbeats 800000 in
theorem new_any (q : Int) (w : World) (h1 : -9223372036854775808 ≤ q) (h2 : q ≤ 9223372036854775807) : Calls Try.prog 9 #[.int .i64 q] w (NewPost w q) := by
  obtain ⟨p, hp⟩ : ∃ p, p = if q ≤ 0 then 0 else q := ⟨_, rfl⟩
  have hp0 : 0 ≤ p := by rw [hp]; split <;> omega
  have hp1 : p ≤ 9223372036854775807 := by rw [hp]; split <;> omega
  have HQ := Lib.hid (show NewPost w q (.returned (.pointer (some ⟨w.heap.size + 1, 0, none⟩))) ((w.alloc (.map #[] 0)).alloc (.cells #[.int .i64 p, .map (some w.heap.size), .int .i64 0, .int .i64 0, .pointer none, .bool false] 58)) from
    ⟨_, _, rfl, by rw [← hp]; exact new_at w p hp0 hp1, ((Below.refl _ _).alloc (Nat.le_refl _) _).alloc (by simp) _⟩)
  generalize NewPost w q = post at *
  have hmm := @run_makeMap Try.prog
  have hmx : ∀ (w : World) (ts : Array TypeId) (t : TypeId), (Builtin.max_ ts t #[.int .i64 q, .int .i64 0]).run Try.prog w = .ok (.int .i64 p) w := fun w ts t => by
    rw [run_max_int2]
    congr 2
    rw [hp]
    split <;> split <;> omega
  clear hp
  go_enter Try.func9, Try.ntmps9
  go_wp2
  exact HQ.out
def armOf (n : Int) : Option Nat := if n < 0 then none else some n.toNat
set_option maxRecDepth 100000 in
set_option maxHeartbeats 800000 in
theorem fail_any (w : World) (base db : Nat) (ro : Nat → Role) (S : St) (n : Int) (h : DiskAt w base db ro S) (h1 : -9223372036854775808 ≤ n) (h2 : n ≤ 9223372036854775807) (hbase : base ≤ w.heap.size) :
    Calls Try.prog 15 #[.pointer (some ⟨db, 0, none⟩), .int .i64 n] w (DoneR w base db ro { S with armed := armOf n } (.tuple #[])) := by
  obtain ⟨mb, m, D, av, h⟩ := h
  have hlt := (h.old db (by rw [h.rdb]; simp)).2
  have hblk : (w.alloc (.cells #[.int .i64 n] 3)).heap[db]? = some (.cells (diskCells mb av S) 58 (0, 0)) := (old_block w _ _ hlt).trans h.blk
  have hc0 : Ch w (w.alloc (.cells #[.int .i64 n] 3)) (fun b => b = db) := (Ch.refl w (fun b => b = db)).alloc _
  by_cases hn : n < 0
  · have HQ := Lib.hid (show DoneR w base db ro { S with armed := armOf n } (.tuple #[]) (.returned (.tuple #[])) ((w.setCell ⟨db, 4, none⟩ (.pointer none)).alloc (.cells #[.int .i64 n] 3)) from
      ⟨rfl, ro, Left.flip h (((Ch.refl w (fun b => b = db)).setCell (p := ⟨db, 4, none⟩) rfl _).alloc _) (av' := .pointer none) (by rw [old_block _ _ _ (by simpa using hlt), blk_set h.blk 4 (.pointer none)]; rfl) rfl (Nat.le_refl _) (.inl ⟨by unfold armOf; rw [if_pos hn], rfl⟩) (ok_with h.ok _ S.off (fun k e => by unfold armOf at e; rw [if_pos hn] at e; cases e))⟩)
    generalize DoneR w base db ro { S with armed := armOf n } (.tuple #[]) = post at *
    have f4 := blk_free hblk 4
    have h4 : (w.alloc (.cells #[.int .i64 n] 3)).cell? ⟨db, 4, none⟩ = some av := by rw [blk_cell hblk]; rfl
    clear h hblk hc0
    go_enter Try.func15, Try.ntmps15
    go_wp2
    go_end0
    exact HQ.out
  · have hn0 : 0 ≤ n := by omega
    obtain ⟨av', hav⟩ : ∃ av' : Value, av' = .pointer (some ⟨w.heap.size, 0, none⟩) := ⟨_, rfl⟩
    have HQ := Lib.hid (show DoneR w base db ro { S with armed := armOf n } (.tuple #[]) (.returned (.tuple #[])) (((w.setCell ⟨db, 4, none⟩ (.pointer none)).setCell ⟨db, 4, none⟩ (.pointer (some ⟨w.heap.size, 0, none⟩))).alloc (.cells #[.int .i64 n] 3)) from by
      have hcc : Ch w (((w.setCell ⟨db, 4, none⟩ (.pointer none)).setCell ⟨db, 4, none⟩ (.pointer (some ⟨w.heap.size, 0, none⟩))).alloc (.cells #[.int .i64 n] 3)) (fun b => b = db) := (((Ch.refl w (fun b => b = db)).setCell (p := ⟨db, 4, none⟩) rfl _).setCell (p := ⟨db, 4, none⟩) rfl _).alloc _
      have hsz : w.heap.size ≠ db := by omega
      have hrs : ro w.heap.size = .none := by
        cases hr : ro w.heap.size with
        | none => rfl
        | _ => have := (h.old w.heap.size (by rw [hr]; simp)).2; omega
      refine ⟨rfl, fun b => if b = w.heap.size then .arm else ro b, ?_, ?_, ?_⟩
      · refine ⟨mb, m, D, .pointer (some ⟨w.heap.size, 0, none⟩), h.flip hcc (fun b hb _ => by subst hb; exact .inl h.rdb) (fun b hb => ?_) (fun b hb => ?_) (by rw [old_block _ _ _ (by simpa using hlt), blk_set (blk_set h.blk 4 (.pointer none)) 4 _]; rfl) rfl (Nat.le_refl _) (.inr ⟨n.toNat, w.heap.size, by unfold armOf; rw [if_neg hn], rfl, by simp, ?_⟩) (ok_with h.ok _ S.off (fun k e => by unfold armOf at e; rw [if_neg hn] at e; cases e; omega))⟩
        · rw [if_neg]
          intro e
          subst e
          exact hb.1 hrs
        · by_cases e : b = w.heap.size
          · subst e; exact ⟨hbase, by simp⟩
          · rw [if_neg e] at hb
            have := h.old b hb
            exact ⟨this.1, by simp; omega⟩
        · rw [show ((n.toNat : Nat) : Int) = n by omega]
          have := heap_alloc_new ((w.setCell ⟨db, 4, none⟩ (.pointer none)).setCell ⟨db, 4, none⟩ (.pointer (some ⟨w.heap.size, 0, none⟩))) (.cells #[.int .i64 n] 3)
          simpa using this
      · intro b hb ho
        unfold Own at ho ⊢
        dsimp only at ho
        rwa [if_neg (by omega)] at ho
      · exact hcc.weak fun b _ hb => by subst hb; unfold Own; rw [h.rdb]; simp)
    generalize DoneR w base db ro { S with armed := armOf n } (.tuple #[]) = post at *
    have f4 := blk_free hblk 4
    have h4 : (w.alloc (.cells #[.int .i64 n] 3)).cell? ⟨db, 4, none⟩ = some av := by rw [blk_cell hblk]; rfl
    have hblk2 : ((w.setCell ⟨db, 4, none⟩ (.pointer none)).alloc (.cells #[.int .i64 n] 3)).heap[db]? = some (.cells (diskCells mb (.pointer none) S) 58 (0, 0)) := (old_block _ _ _ (by simpa using hlt)).trans (by rw [blk_set h.blk 4 (.pointer none)]; rfl)
    have f4b := blk_free hblk2 4
    have h4b : ((w.setCell ⟨db, 4, none⟩ (.pointer none)).alloc (.cells #[.int .i64 n] 3)).cell? ⟨db, 4, none⟩ = some (.pointer none) := by rw [blk_cell hblk2]; rfl
    clear hblk2
    clear h hblk hc0 hav
    go_enter Try.func15, Try.ntmps15
    go_wp2
    go_end0
    exact HQ.out
end Go.Proofs.Ytfgbaigpmhnoaaa
