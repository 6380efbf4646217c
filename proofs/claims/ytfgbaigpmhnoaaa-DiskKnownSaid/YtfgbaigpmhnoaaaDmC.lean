/- disk: New, Off, Crash, Fail, Used, Steps. -/
import Derived.Test.YtfgbaigpmhnoaaaDmP
set_option linter.unusedVariables false
set_option linter.unusedSimpArgs false
namespace Go.Proofs.Ytfgbaigpmhnoaaa
open Go.RowKit Go.BigFrame Go.Maps
open Dsk (Fl St Ok get put drop used)

theorem DiskIn.cells {w : World} {base db mb n : Nat} {D : DataW Unit} {av : Value} {ro : Nat → Role} {S : St} (h : DiskIn w base db mb n D av ro S) :
    w.cell? ⟨db, 0, none⟩ = some (.int .i64 S.quota) ∧ w.cell? ⟨db, 1, none⟩ = some (.map (some mb)) ∧ w.cell? ⟨db, 2, none⟩ = some (.int .i64 (used S.fs : Int)) ∧ w.cell? ⟨db, 3, none⟩ = some (.int .i64 (S.steps : Int)) ∧ w.cell? ⟨db, 4, none⟩ = some av ∧ w.cell? ⟨db, 5, none⟩ = some (.bool S.off) := by
  refine ⟨?_, ?_, ?_, ?_, ?_, ?_⟩ <;> · rw [blk_cell h.blk]; rfl
theorem DiskIn.free {w : World} {base db mb n : Nat} {D : DataW Unit} {av : Value} {ro : Nat → Role} {S : St} (h : DiskIn w base db mb n D av ro S) (i : Nat) : w.frozen? ⟨db, i, none⟩ = false := blk_free h.blk i
def DoneR (w : World) (base db : Nat) (ro : Nat → Role) (S' : St) (r : Value) (e : Ending) (w' : World) : Prop := e = .returned r ∧ ∃ ro', Left w w' base db ro S' ro'
theorem off_any (w : World) (base db : Nat) (ro : Nat → Role) (S : St) (h : DiskAt w base db ro S) : Calls Try.prog 16 #[.pointer (some ⟨db, 0, none⟩)] w fun e w' => e = .returned (.bool S.off) ∧ w' = w := by
  obtain ⟨mb, n, D, av, h⟩ := h
  obtain ⟨_, _, _, _, _, h5⟩ := h.cells
  clear h
  go_enter Try.func16, Try.ntmps16
  go_wp2
  go_ret
  exact ⟨rfl, by trivial⟩
theorem used_any (w : World) (base db : Nat) (ro : Nat → Role) (S : St) (h : DiskAt w base db ro S) : Calls Try.prog 24 #[.pointer (some ⟨db, 0, none⟩)] w fun e w' => e = .returned (.int .i64 (used S.fs : Int)) ∧ w' = w := by
  obtain ⟨mb, n, D, av, h⟩ := h
  obtain ⟨_, _, h2, _, _, _⟩ := h.cells
  clear h
  go_enter Try.func24, Try.ntmps24
  go_wp2
  go_ret
  exact ⟨rfl, by trivial⟩
theorem steps_any (w : World) (base db : Nat) (ro : Nat → Role) (S : St) (h : DiskAt w base db ro S) : Calls Try.prog 27 #[.pointer (some ⟨db, 0, none⟩)] w fun e w' => e = .returned (.int .i64 (S.steps : Int)) ∧ w' = w := by
  obtain ⟨mb, n, D, av, h⟩ := h
  obtain ⟨_, _, _, h3, _, _⟩ := h.cells
  clear h
  go_enter Try.func27, Try.ntmps27
  go_wp2
  go_ret
  exact ⟨rfl, by trivial⟩
theorem Left.flip {w w' : World} {base db mb n : Nat} {D : DataW Unit} {av av' : Value} {ro : Nat → Role} {S S' : St} (h : DiskIn w base db mb n D av ro S) (hc : Ch w w' (fun b => b = db))
    (hb : w'.heap[db]? = some (.cells (diskCells mb av' S') 58 (0, 0))) (hfs : S'.fs = S.fs) (hst : S.steps ≤ S'.steps) (ha : ArmAt w' ro av' S'.armed) (hok : Ok S') : Left w w' base db ro S' ro := by
  refine ⟨⟨mb, n, D, av', h.flip hc (fun b hb _ => by subst hb; exact .inl h.rdb) (fun _ _ => rfl) (fun b hb => ⟨(h.old b hb).1, Nat.lt_of_lt_of_le (h.old b hb).2 hc.size⟩) hb hfs hst ha hok⟩, Sub.refl _ _, hc.weak fun b _ hb => by subst hb; unfold Own; rw [h.rdb]; simp⟩
theorem ok_with {S : St} (h : Ok S) (a : Option Nat) (o : Bool) (ha : ∀ k, a = some k → k < 9223372036854775808) : Ok { S with armed := a, off := o } := ⟨h.q0, h.qm, h.sorted, h.few, h.low, h.fit, h.sum, h.file, ha⟩
set_option maxRecDepth 100000 in
set_option maxHeartbeats 800000 in
theorem crash_any (w : World) (base db : Nat) (ro : Nat → Role) (S : St) (h : DiskAt w base db ro S) : Calls Try.prog 19 #[.pointer (some ⟨db, 0, none⟩)] w (DoneR w base db ro { S with off := true, armed := none } (.tuple #[])) := by
  obtain ⟨mb, n, D, av, h⟩ := h
  have HQ := Lib.hid (show DoneR w base db ro { S with off := true, armed := none } (.tuple #[]) (.returned (.tuple #[])) ((w.setCell ⟨db, 5, none⟩ (.bool true)).setCell ⟨db, 4, none⟩ (.pointer none)) from
    ⟨rfl, ro, Left.flip h (((Ch.refl w (fun b => b = db)).setCell (p := ⟨db, 5, none⟩) rfl _).setCell (p := ⟨db, 4, none⟩) rfl _) (av' := .pointer none) (by rw [blk_set (blk_set h.blk 5 (.bool true)) 4 (.pointer none)]; rfl) rfl (Nat.le_refl _) (.inl ⟨rfl, rfl⟩) (ok_with h.ok none true (fun k e => by cases e))⟩)
  generalize DoneR w base db ro { S with off := true, armed := none } (.tuple #[]) = post at *
  have f5 := h.free 5
  have f4 := h.free 4
  obtain ⟨_, _, _, _, h4, h5⟩ := h.cells
  clear h
  go_enter Try.func19, Try.ntmps19
  go_wp2
  go_end0
  exact HQ.out
theorem ok_new (q : Int) (h0 : 0 ≤ q) (h1 : q ≤ 9223372036854775807) : Ok ⟨q, [], 0, none, false⟩ :=
  ⟨h0, h1, List.Pairwise.nil, Nat.le_refl _, by show (0 : Nat) ≤ _; omega, h0, by show (0 : Nat) ≤ _; omega, (fun s f h => by cases h), (fun k h => by cases h)⟩
def NewPost (w : World) (q : Int) (e : Ending) (w' : World) : Prop := ∃ db ro, e = .returned (.pointer (some ⟨db, 0, none⟩)) ∧ DiskAt w' w.heap.size db ro ⟨if q ≤ 0 then 0 else q, [], 0, none, false⟩ ∧ Below w.heap.size w w'
theorem new_at (w : World) (q : Int) (h0 : 0 ≤ q) (h1 : q ≤ 9223372036854775807) : DiskAt ((w.alloc (.map #[] 0)).alloc (.cells #[.int .i64 q, .map (some w.heap.size), .int .i64 0, .int .i64 0, .pointer none, .bool false] 58)) w.heap.size (w.heap.size + 1) (fun b => if b = w.heap.size then .map else if b = w.heap.size + 1 then .disk else .none) ⟨q, [], 0, none, false⟩ := by
  refine ⟨w.heap.size, 0, .map [], .pointer none, ?_⟩
  refine ⟨?_, (World.ownsMap_made w _ _ _).alloc _, Nat.le_refl _, by simp, by simp, ?_, fun s => rfl, .inl ⟨rfl, rfl⟩, (fun s f h => by cases h), ok_new q h0 h1⟩
  · have := heap_alloc_new (w.alloc (.map #[] 0)) (.cells #[.int .i64 q, .map (some w.heap.size), .int .i64 0, .int .i64 0, .pointer none, .bool false] 58)
    rw [World.size_alloc] at this
    exact this
  · intro b hb
    by_cases e : b = w.heap.size
    · subst e; simp; omega
    · by_cases e2 : b = w.heap.size + 1
      · subst e2; simp
      · simp [e, e2] at hb
set_option maxRecDepth 100000 in
set_option maxHeartbeats 800000 in
theorem new_any (q : Int) (w : World) (h1 : -9223372036854775808 ≤ q) (h2 : q ≤ 9223372036854775807) : Calls Try.prog 9 #[.int .i64 q] w (NewPost w q) := by
  obtain ⟨p, hp⟩ : ∃ p, p = if q ≤ 0 then 0 else q := ⟨_, rfl⟩
  have hp0 : 0 ≤ p := by rw [hp]; split <;> omega
  have hp1 : p ≤ 9223372036854775807 := by rw [hp]; split <;> omega
  have HQ := Lib.hid (show NewPost w q (.returned (.pointer (some ⟨w.heap.size + 1, 0, none⟩))) ((w.alloc (.map #[] 0)).alloc (.cells #[.int .i64 p, .map (some w.heap.size), .int .i64 0, .int .i64 0, .pointer none, .bool false] 58)) from
    ⟨_, _, rfl, by rw [← hp]; exact new_at w p hp0 hp1, ((Below.refl _ _).alloc (Nat.le_refl _) _).alloc (by simp) _⟩)
  generalize NewPost w q = post at *
  have hmm := @run_makeMap Try.prog
  have hmx : ∀ (w : World) (ts : Array TypeId) (t : TypeId), (Builtin.max_ ts t #[.int .i64 q, .int .i64 0]).run Try.prog w = .ok (.int .i64 p) w := fun w ts t => by
    rw [run_max_int2]
    congr 2
    rw [hp]
    split <;> split <;> omega
  clear hp
  go_enter Try.func9, Try.ntmps9
  go_wp2
  exact HQ.out
def armOf (n : Int) : Option Nat := if n < 0 then none else some n.toNat
set_option maxRecDepth 100000 in
set_option maxHeartbeats 800000 in
theorem fail_any (w : World) (base db : Nat) (ro : Nat → Role) (S : St) (n : Int) (h : DiskAt w base db ro S) (h1 : -9223372036854775808 ≤ n) (h2 : n ≤ 9223372036854775807) (hbase : base ≤ w.heap.size) :
    Calls Try.prog 15 #[.pointer (some ⟨db, 0, none⟩), .int .i64 n] w (DoneR w base db ro { S with armed := armOf n } (.tuple #[])) := by
  obtain ⟨mb, m, D, av, h⟩ := h
  have hlt := (h.old db (by rw [h.rdb]; simp)).2
  have hblk : (w.alloc (.cells #[.int .i64 n] 3)).heap[db]? = some (.cells (diskCells mb av S) 58 (0, 0)) := (old_block w _ _ hlt).trans h.blk
  have hc0 : Ch w (w.alloc (.cells #[.int .i64 n] 3)) (fun b => b = db) := (Ch.refl w (fun b => b = db)).alloc _
  by_cases hn : n < 0
  · have HQ := Lib.hid (show DoneR w base db ro { S with armed := armOf n } (.tuple #[]) (.returned (.tuple #[])) ((w.setCell ⟨db, 4, none⟩ (.pointer none)).alloc (.cells #[.int .i64 n] 3)) from
      ⟨rfl, ro, Left.flip h (((Ch.refl w (fun b => b = db)).setCell (p := ⟨db, 4, none⟩) rfl _).alloc _) (av' := .pointer none) (by rw [old_block _ _ _ (by simpa using hlt), blk_set h.blk 4 (.pointer none)]; rfl) rfl (Nat.le_refl _) (.inl ⟨by unfold armOf; rw [if_pos hn], rfl⟩) (ok_with h.ok _ S.off (fun k e => by unfold armOf at e; rw [if_pos hn] at e; cases e))⟩)
    generalize DoneR w base db ro { S with armed := armOf n } (.tuple #[]) = post at *
    have f4 := blk_free hblk 4
    have h4 : (w.alloc (.cells #[.int .i64 n] 3)).cell? ⟨db, 4, none⟩ = some av := by rw [blk_cell hblk]; rfl
    clear h hblk hc0
    go_enter Try.func15, Try.ntmps15
    go_wp2
    go_end0
    exact HQ.out
  · have hn0 : 0 ≤ n := by omega
    obtain ⟨av', hav⟩ : ∃ av' : Value, av' = .pointer (some ⟨w.heap.size, 0, none⟩) := ⟨_, rfl⟩
    have HQ := Lib.hid (show DoneR w base db ro { S with armed := armOf n } (.tuple #[]) (.returned (.tuple #[])) (((w.setCell ⟨db, 4, none⟩ (.pointer none)).setCell ⟨db, 4, none⟩ (.pointer (some ⟨w.heap.size, 0, none⟩))).alloc (.cells #[.int .i64 n] 3)) from by
      have hcc : Ch w (((w.setCell ⟨db, 4, none⟩ (.pointer none)).setCell ⟨db, 4, none⟩ (.pointer (some ⟨w.heap.size, 0, none⟩))).alloc (.cells #[.int .i64 n] 3)) (fun b => b = db) := (((Ch.refl w (fun b => b = db)).setCell (p := ⟨db, 4, none⟩) rfl _).setCell (p := ⟨db, 4, none⟩) rfl _).alloc _
      have hsz : w.heap.size ≠ db := by omega
      have hrs : ro w.heap.size = .none := by
        cases hr : ro w.heap.size with
        | none => rfl
        | _ => have := (h.old w.heap.size (by rw [hr]; simp)).2; omega
      refine ⟨rfl, fun b => if b = w.heap.size then .arm else ro b, ?_, ?_, ?_⟩
      · refine ⟨mb, m, D, .pointer (some ⟨w.heap.size, 0, none⟩), h.flip hcc (fun b hb _ => by subst hb; exact .inl h.rdb) (fun b hb => ?_) (fun b hb => ?_) (by rw [old_block _ _ _ (by simpa using hlt), blk_set (blk_set h.blk 4 (.pointer none)) 4 _]; rfl) rfl (Nat.le_refl _) (.inr ⟨n.toNat, w.heap.size, by unfold armOf; rw [if_neg hn], rfl, by simp, ?_⟩) (ok_with h.ok _ S.off (fun k e => by unfold armOf at e; rw [if_neg hn] at e; cases e; omega))⟩
        · rw [if_neg]
          intro e
          subst e
          exact hb.1 hrs
        · by_cases e : b = w.heap.size
          · subst e; exact ⟨hbase, by simp⟩
          · rw [if_neg e] at hb
            have := h.old b hb
            exact ⟨this.1, by simp; omega⟩
        · rw [show ((n.toNat : Nat) : Int) = n by omega]
          have := heap_alloc_new ((w.setCell ⟨db, 4, none⟩ (.pointer none)).setCell ⟨db, 4, none⟩ (.pointer (some ⟨w.heap.size, 0, none⟩))) (.cells #[.int .i64 n] 3)
          simpa using this
      · intro b hb ho
        unfold Own at ho ⊢
        dsimp only at ho
        rwa [if_neg (by omega)] at ho
      · exact hcc.weak fun b _ hb => by subst hb; unfold Own; rw [h.rdb]; simp)
    generalize DoneR w base db ro { S with armed := armOf n } (.tuple #[]) = post at *
    have f4 := blk_free hblk 4
    have h4 : (w.alloc (.cells #[.int .i64 n] 3)).cell? ⟨db, 4, none⟩ = some av := by rw [blk_cell hblk]; rfl
    have hblk2 : ((w.setCell ⟨db, 4, none⟩ (.pointer none)).alloc (.cells #[.int .i64 n] 3)).heap[db]? = some (.cells (diskCells mb (.pointer none) S) 58 (0, 0)) := (old_block _ _ _ (by simpa using hlt)).trans (by rw [blk_set h.blk 4 (.pointer none)]; rfl)
    have f4b := blk_free hblk2 4
    have h4b : ((w.setCell ⟨db, 4, none⟩ (.pointer none)).alloc (.cells #[.int .i64 n] 3)).cell? ⟨db, 4, none⟩ = some (.pointer none) := by rw [blk_cell hblk2]; rfl
    clear hblk2
    clear h hblk hc0 hav
    go_enter Try.func15, Try.ntmps15
    go_wp2
    go_end0
    exact HQ.out
end Go.Proofs.Ytfgbaigpmhnoaaa

/- disk: refuse, find. -/
namespace Go.Proofs.Ytfgbaigpmhnoaaa
open Go.RowKit Go.BigFrame Go.Maps
open Dsk (Fl St Ok get put drop used)

/-- May a name be? -/
def nameOk (s : ByteArray) : Bool := decide (0 < s.size) && decide (s.size ≤ 128)
/-- What bars a call with these names. -/
def refC (S : St) (l : List ByteArray) : Int := if S.off then 40 else if l.all nameOk then 0 else 2
/-- A row of names. -/
def NRow (w : World) (v : Value) (l : List ByteArray) : Prop := Reads w w.heap.size v (strs l) ∧ ∀ s ∈ l, s.size ≤ maxLen
theorem NRow.at {w : World} {v : Value} {l : List ByteArray} (h : NRow w v l) (k : Nat) (hk : k < l.length) : ∃ ad cap, v = .slice (some ad) l.length cap ∧ l.length ≤ cap ∧ cap ≤ maxLen ∧ w.cell? (ad.add k) = some (.string (l.getD k ⟨#[]⟩)) ∧ (l.getD k ⟨#[]⟩).size ≤ maxLen := by
  obtain ⟨⟨A, cap, e, h1, h2, _, h4⟩, hs⟩ := h
  rw [strs_len] at e h1 h4
  obtain ⟨ad, rfl, _, hc⟩ := h4 (by omega)
  refine ⟨ad, cap, e, h1, h2, hc k _ (strs_get l k hk), ?_⟩
  have : l.getD k ⟨#[]⟩ = l[k] := by simp [List.getD, hk]
  rw [this]; exact hs _ (List.getElem_mem hk)
theorem all_take {l : List ByteArray} {k : Nat} (hk : k < l.length) (h : (l.take k).all nameOk = true) (hn : nameOk (l.getD k ⟨#[]⟩) = true) : (l.take (k + 1)).all nameOk = true := by
  have : l.getD k ⟨#[]⟩ = l[k] := by simp [List.getD, hk]
  rw [List.take_succ_eq_append_getElem hk, List.all_append, h, ← this]
  simpa using hn
theorem all_not {l : List ByteArray} {k : Nat} (hk : k < l.length) (hn : nameOk (l.getD k ⟨#[]⟩) = false) : l.all nameOk = false := by
  have : l.getD k ⟨#[]⟩ = l[k] := by simp [List.getD, hk]
  rw [this] at hn
  rw [List.all_eq_false]
  exact ⟨_, List.getElem_mem hk, by rw [hn]; simp⟩
set_option maxRecDepth 100000 in
set_option maxHeartbeats 800000 in
theorem refuse_any (w : World) (base db : Nat) (ro : Nat → Role) (S : St) (v : Value) (l : List ByteArray) (h : DiskAt w base db ro S) (hv : NRow w v l) (hl : 0 < l.length) :
    Calls Try.prog 38 #[.pointer (some ⟨db, 0, none⟩), v] w fun e w' => e = .returned (.int .i64 (refC S l)) ∧ w' = w := by
  obtain ⟨mb, n, D, av, h⟩ := h
  obtain ⟨_, _, _, _, _, h5⟩ := h.cells
  have HV := Lib.hid hv
  obtain ⟨ad, cap, rfl, h1, h2, _⟩ := hv.at 0 hl
  unfold maxLen at h2
  cases ho : S.off with
  | true =>
    rw [ho] at h5
    have e : refC S l = 40 := by unfold refC; rw [if_pos ho]
    rw [e]
    clear h hv HV ho e
    go_enter Try.func38, Try.ntmps38
    go_wp2
    go_ret
    exact ⟨rfl, by trivial⟩
  | false =>
    rw [ho] at h5
    have HYES := Lib.hid (fun (hy : l.all nameOk = true) => show (fun e w' => e = Ending.returned (.int .i64 (refC S l)) ∧ w' = w) (.returned (.int .i64 0)) w from ⟨by unfold refC; rw [ho, hy]; rfl, rfl⟩)
    have HNO := Lib.hid (fun (hy : l.all nameOk = false) => show (fun e w' => e = Ending.returned (.int .i64 (refC S l)) ∧ w' = w) (.returned (.int .i64 2)) w from ⟨by unfold refC; rw [ho, hy]; rfl, rfl⟩)
    generalize (fun e w' => e = Ending.returned (.int .i64 (refC S l)) ∧ w' = w) = post at *
    clear h hv ho
    go_enter Try.func38, Try.ntmps38
    go_wp2
    go_loop [6, 15] (fun _ kv => ∃ k : Nat, kv = .int .i64 (k : Int) ∧ k ≤ l.length ∧ Hid ((l.take k).all nameOk = true)) (fun _ kv => l.length - (intOf kv).toNat)
    case atStart => exact ⟨0, rfl, by omega, Lib.hid (by simp)⟩
    case round =>
      obtain ⟨k, rfl, hk, HA⟩ := hrel
      by_cases hlt : k < l.length
      · obtain ⟨ad', cap', e, _, _, hc, hsz⟩ := HV.out.at k hlt
        cases e
        unfold maxLen at hsz
        have HT := Lib.hid (fun hn => all_take hlt HA.out hn)
        have HN := Lib.hid (fun hn => HNO.out (all_not hlt hn))
        obtain ⟨s, hs⟩ : ∃ s, s = l.getD k ⟨#[]⟩ := ⟨_, rfl⟩
        rw [← hs] at hc hsz HT HN
        have hkk : (k : Int) < (l.length : Int) := by omega
        clear hs HA HNO
        by_cases hz : s.size = 0
        · have HQ := Lib.hid (HN.out (by unfold nameOk; rw [decide_eq_false (by omega)]; rfl))
          have hemp : s.toList = [] := by rw [Lib.toList_data]; exact List.eq_nil_of_length_eq_zero (by rw [Array.length_toList]; exact hz)
          clear HT HN hz
          go_wp2
          exact HQ.out
        · have hemp : s.toList.isEmpty = false := by
            rw [← decide_eq_emptyBytes]
            exact decide_eq_false (fun h => by rw [h] at hz; exact hz rfl)
          by_cases hz2 : 128 < s.size
          · have HQ := Lib.hid (HN.out (by unfold nameOk; rw [decide_eq_false (show ¬ s.size ≤ 128 by omega), Bool.and_false]))
            have hzi : (128 : Int) < (s.size : Int) := by omega
            clear HT HN hz
            go_wp2
            exact HQ.out
          · have HA2 := Lib.hid (HT.out (by unfold nameOk; rw [decide_eq_true (by omega), decide_eq_true (by omega)]; rfl))
            have hzi : ¬ (128 : Int) < (s.size : Int) := by omega
            clear HT HN hz
            go_wp2
            go_round
            case rel => exact ⟨k + 1, by go_num, by omega, HA2⟩
            case measure => simp [intOf]; omega
      · have HQ := Lib.hid (HYES.out (by have := HA.out; rwa [List.take_of_length_le (by omega)] at this))
        have hkk : ¬ (k : Int) < (l.length : Int) := by omega
        clear HA HYES HNO
        go_wp2
        exact HQ.out
/-- What find tells of a row of names. -/
def FindPost (w : World) (base : Nat) (D : DataW Unit) (ro : Nat → Role) (S : St) (l : List ByteArray) (e : Ending) (w' : World) : Prop :=
  (∃ nq, w' = w.drewN nq) ∧ ((refC S l ≠ 0 ∧ e = .returned (.tuple #[.pointer none, .int .i64 (refC S l)])) ∨ (refC S l = 0 ∧ get S.fs (l.getD 0 ⟨#[]⟩) = none ∧ e = .returned (.tuple #[.pointer none, .int .i64 5])) ∨
    (refC S l = 0 ∧ ∃ f fb v, get S.fs (l.getD 0 ⟨#[]⟩) = some f ∧ e = .returned (.tuple #[.pointer (some ⟨fb, 0, none⟩), .int .i64 0]) ∧ D.atKey (kS (l.getD 0 ⟨#[]⟩)) .nil = .lit (.int .i64 ((fb : Nat) : Int)) ∧ FileAt w base ro (l.getD 0 ⟨#[]⟩) fb v f))
theorem DiskIn.drewN {w : World} {base db mb n : Nat} {D : DataW Unit} {av : Value} {ro : Nat → Role} {S : St} (h : DiskIn w base db mb n D av ro S) (q : Nat) : DiskIn (w.drewN q) base db mb n D av ro S :=
  h.ch ((Ch.refl w (fun _ => False)).drewN q) fun _ _ h => h
theorem refC_vals (S : St) (l : List ByteArray) : refC S l = 0 ∨ refC S l = 2 ∨ refC S l = 40 := by
  unfold refC
  split
  · simp
  · split <;> simp
set_option maxRecDepth 100000 in
set_option maxHeartbeats 1600000 in
theorem find_any (w : World) (base db mb n : Nat) (D : DataW Unit) (av : Value) (ro : Nat → Role) (S : St) (v : Value) (l : List ByteArray) (h : DiskIn w base db mb n D av ro S) (hv : NRow w v l) (hl : 0 < l.length) :
    Calls Try.prog 42 #[.pointer (some ⟨db, 0, none⟩), v] w (FindPost w base D ro S l) := by
  have HR := Lib.hid (refuse_any w base db ro S v l ⟨mb, n, D, av, h⟩ hv hl)
  have HP1 := Lib.hid (fun (hc : refC S l ≠ 0) => show FindPost w base D ro S l (.returned (.tuple #[.pointer none, .int .i64 (refC S l)])) w from ⟨⟨0, rfl⟩, .inl ⟨hc, rfl⟩⟩)
  have HP2 := Lib.hid (fun (nq : Nat) (hc : refC S l = 0) (hg : get S.fs (l.getD 0 ⟨#[]⟩) = none) => show FindPost w base D ro S l (.returned (.tuple #[.pointer none, .int .i64 5])) (w.drewN nq) from ⟨⟨nq, rfl⟩, .inr (.inl ⟨hc, hg, rfl⟩)⟩)
  have HP3 := Lib.hid (fun (nq : Nat) (hc : refC S l = 0) (f : Fl) (fb : Nat) (vv : Value) (hg : get S.fs (l.getD 0 ⟨#[]⟩) = some f) (h1 : D.atKey (kS (l.getD 0 ⟨#[]⟩)) .nil = .lit (.int .i64 ((fb : Nat) : Int))) (h2 : FileAt w base ro (l.getD 0 ⟨#[]⟩) fb vv f) => show FindPost w base D ro S l (.returned (.tuple #[.pointer (some ⟨fb, 0, none⟩), .int .i64 0])) (w.drewN nq) from ⟨⟨nq, rfl⟩, .inr (.inr ⟨hc, f, fb, vv, hg, rfl, h1, h2⟩)⟩)
  generalize FindPost w base D ro S l = post at *
  obtain ⟨_, h1, _, _, _, _⟩ := h.cells
  obtain ⟨ad, cap, rfl, hcap, hcm, hc0, hsz⟩ := hv.at 0 hl
  rw [add_zero] at hc0
  unfold maxLen at hcm
  have hll : (0 : Int) < (l.length : Int) := by omega
  have HLK := Lib.hid (fun nq => (h.drewN nq).look (l.getD 0 ⟨#[]⟩) hsz)
  have hvals := refC_vals S l
  have HK0 := Lib.hid (h.look (l.getD 0 ⟨#[]⟩) hsz)
  clear h hv hsz
  by_cases hc : refC S l = 0
  · have HRC := Lib.hid hc
    rw [hc] at HR
    clear hc hvals HP1
    obtain ⟨s, hs⟩ : ∃ s, s = l.getD 0 ⟨#[]⟩ := ⟨_, rfl⟩
    rw [← hs] at hc0 HLK HK0 HP2 HP3
    clear hs
    cases hg : get S.fs s with
    | none =>
      have hrun : ∀ nq, (Instr.lookup 55 (.map (some mb)) (.string s) false).run Try.prog (w.drewN nq) = .ok (.pointer none) (w.drewN nq) := fun nq => by
        rcases HLK.out nq with ⟨_, h⟩ | ⟨f, _, _, hf, _⟩
        · exact h
        · rw [hg] at hf; cases hf
      have HQ := Lib.hid (fun nq => HP2.out nq HRC.out hg)
      clear hg HLK HK0 HP2 HP3
      go_enter Try.func42, Try.ntmps42
      go_wp2_with fail
      refine HR.out.mono ?_
      rintro e w' ⟨rfl, hw⟩
      obtain rfl := hw.symm
      go_wp2
      go_quiet (fail)
      go_wp2
      exact HQ.out _
    | some f =>
      obtain ⟨fb, vv, h1', h2', h3'⟩ : ∃ fb vv, (Instr.lookup 55 (.map (some mb)) (.string s) false).run Try.prog w = .ok (.pointer (some ⟨fb, 0, none⟩)) w ∧ D.atKey (kS s) .nil = .lit (.int .i64 ((fb : Nat) : Int)) ∧ FileAt w base ro s fb vv f := by
        rcases HK0.out with ⟨h, _⟩ | ⟨f', fb, vv, hf, hr, ha, hfa⟩
        · rw [hg] at h; cases h
        · rw [hg] at hf; cases hf; exact ⟨fb, vv, hr, ha, hfa⟩
      have hrun : ∀ nq, (Instr.lookup 55 (.map (some mb)) (.string s) false).run Try.prog (w.drewN nq) = .ok (.pointer (some ⟨fb, 0, none⟩)) (w.drewN nq) := fun nq => by
        rcases HLK.out nq with ⟨h, _⟩ | ⟨f', fb', vv', hf, hr, ha, hfa⟩
        · rw [hg] at h; cases h
        · rw [h2'] at ha
          have : (fb : Int) = (fb' : Int) := by injection ha with ha; injection ha
          obtain rfl : fb = fb' := by omega
          exact hr
      have HQ := Lib.hid (fun nq => HP3.out nq HRC.out f fb vv hg h2' h3')
      clear hg HLK HK0 HP2 HP3 h1' h2' h3'
      go_enter Try.func42, Try.ntmps42
      go_wp2_with fail
      refine HR.out.mono ?_
      rintro e w' ⟨rfl, hw⟩
      obtain rfl := hw.symm
      go_wp2
      go_quiet (fail)
      go_wp2
      exact HQ.out _
  · have HQ := Lib.hid (HP1.out hc)
    obtain ⟨c, hcc⟩ : ∃ c, c = refC S l := ⟨_, rfl⟩
    rw [← hcc] at HR HQ hc
    have hc1 : (c == 0) = false := by simpa using hc
    have hc2 : (c != 0) = true := by simpa using hc
    clear HLK HK0 HP1 HP2 HP3 hvals hcc
    go_enter Try.func42, Try.ntmps42
    go_wp2_with fail
    refine HR.out.mono ?_
    rintro e w' ⟨rfl, hw⟩
    obtain rfl := hw.symm
    go_wp2
    exact HQ.out
end Go.Proofs.Ytfgbaigpmhnoaaa

/- disk: settle, hold, drop. -/
namespace Go.Proofs.Ytfgbaigpmhnoaaa
open Go.RowKit Go.BigFrame Go.Maps
open Dsk (Fl St Ok get put drop used)

/-- Some names' files turn. -/
theorem DiskIn.turns {w w' : World} {base db mb n n' : Nat} {D D' : DataW Unit} {av av' : Value} {ro ro' : Nat → Role} {S S' : St} {M : Nat → Prop} (h : DiskIn w base db mb n D av ro S) (X : ByteArray → Prop) (hc : Ch w w' M)
    (hm : ∀ b t, ¬ X t → ro b = .file t ∨ ro b = .row t → ¬ M b) (hr : ∀ b, (ro b = .disk ∨ ro b = .map ∨ ∃ t, ¬ X t ∧ (ro b = .file t ∨ ro b = .row t)) → ro' b = ro b) (hn : ∀ b, ro' b ≠ .none → base ≤ b ∧ b < w'.heap.size)
    (hb : w'.heap[db]? = some (.cells (diskCells mb av' S') 58 (0, 0))) (hown : w'.ownsMap Try.prog 9 ptrElem mb n' D') (hbnd : n' ≤ S'.steps)
    (hD : ∀ t, ¬ X t → Maps.has D' (kS t) = Maps.has D (kS t) ∧ D'.atKey (kS t) .nil = D.atKey (kS t) .nil) (hg : ∀ t, ¬ X t → get S'.fs t = get S.fs t)
    (hs : ∀ s, X s → Maps.has D' (kS s) = (get S'.fs s).isSome) (hf : ∀ s, X s → ∀ f, get S'.fs s = some f → ∃ fb v, D'.atKey (kS s) .nil = .lit (.int .i64 ((fb : Nat) : Int)) ∧ FileAt w' base ro' s fb v f)
    (ha : ArmAt w' ro' av' S'.armed) (hok : Ok S') : DiskIn w' base db mb n' D' av' ro' S' := by
  refine ⟨hb, hown, hbnd, by rw [hr _ (.inl h.rdb), h.rdb], by rw [hr _ (.inr (.inl h.rmb)), h.rmb], hn, fun t => ?_, ha, fun t f hft => ?_, hok⟩
  · by_cases e : X t
    · exact hs t e
    · rw [(hD t e).1, hg t e]; exact h.has t
  · by_cases e : X t
    · exact hf t e f hft
    · rw [hg t e] at hft
      obtain ⟨fb, v, h1, h2⟩ := h.file t f hft
      have h3 := h2.ch hc fun b hb => hm b t e hb
      exact ⟨fb, v, by rw [(hD t e).2]; exact h1, (hr _ (.inr (.inr ⟨t, e, .inl h3.rfb⟩))).trans h3.rfb, h3.blk, h3.row, fun g hg' => (hr _ (.inr (.inr ⟨t, e, .inr (h3.rrow g hg')⟩))).trans (h3.rrow g hg')⟩
def settled (w : World) (fb len : Nat) : World := (w.setCell ⟨fb, 1, none⟩ (.int .i64 (len : Int))).setCell ⟨fb, 2, none⟩ (.bool true)
theorem settled_blk {w : World} {fb len : Nat} {v u x : Value} {T : TypeId} (h : w.heap[fb]? = some (.cells #[v, u, x] T (0, 0))) : (settled w fb len).heap[fb]? = some (.cells #[v, .int .i64 (len : Int), .bool true] T (0, 0)) := by
  unfold settled
  rw [blk_set (blk_set h 1 _) 2 _]; rfl
theorem settled_ch (w : World) (fb len : Nat) : Ch w (settled w fb len) (fun b => b = fb) := ((Ch.refl w (fun b => b = fb)).setCell (p := ⟨fb, 1, none⟩) rfl _).setCell (p := ⟨fb, 2, none⟩) rfl _
set_option maxRecDepth 100000 in
set_option maxHeartbeats 800000 in
theorem settle_any (w : World) (fb len cap : Nat) (A : Option Addr) (u x : Value) (h : w.heap[fb]? = some (.cells #[.slice A len cap, u, x] 64 (0, 0))) :
    Calls Try.prog 43 #[.pointer (some ⟨fb, 0, none⟩)] w fun e w' => e = .returned (.tuple #[]) ∧ w' = settled w fb len := by
  have HQ := Lib.hid (show (fun e w' => e = Ending.returned (.tuple #[]) ∧ w' = settled w fb len) (.returned (.tuple #[])) ((w.setCell ⟨fb, 1, none⟩ (.int .i64 (len : Int))).setCell ⟨fb, 2, none⟩ (.bool true)) from ⟨rfl, rfl⟩)
  generalize (fun e w' => e = Ending.returned (.tuple #[]) ∧ w' = settled w fb len) = post at *
  have c0 : w.cell? ⟨fb, 0, none⟩ = some (.slice A len cap) := by rw [blk_cell h]; rfl
  have c1 : w.cell? ⟨fb, 1, none⟩ = some u := by rw [blk_cell h]; rfl
  have c2 : w.cell? ⟨fb, 2, none⟩ = some x := by rw [blk_cell h]; rfl
  have f1 := blk_free h 1
  have f2 := blk_free h 2
  clear h
  go_enter Try.func43, Try.ntmps43
  go_wp2
  go_end0
  exact HQ.out
def HoldPost (w : World) (mb n : Nat) (D : DataW Unit) (s : ByteArray) (fb : Nat) (e : Ending) (w' : World) : Prop :=
  e = .returned (.tuple #[]) ∧ w'.ownsMap Try.prog 9 ptrElem mb (n + 1) (D.put (kS s) (.lit (.int .i64 ((fb : Nat) : Int)))) ∧ w.grownBy w' (some mb)
set_option maxRecDepth 100000 in
set_option maxHeartbeats 800000 in
theorem hold_any (w : World) (db mb n : Nat) (D : DataW Unit) (s : ByteArray) (fb : Nat) (hs : s.size ≤ maxLen) (hn : n ≤ 1000000000) (c1 : w.cell? ⟨db, 1, none⟩ = some (.map (some mb))) (ho : w.ownsMap Try.prog 9 ptrElem mb n D) :
    Calls Try.prog 41 #[.pointer (some ⟨db, 0, none⟩), .string s, .pointer (some ⟨fb, 0, none⟩)] w (HoldPost w mb n D s fb) := by
  have HP := Lib.hid (fun (w' : World) (h1 : w'.ownsMap Try.prog 9 ptrElem mb (n + 1) (D.put (kS s) (.lit (.int .i64 ((fb : Nat) : Int))))) (h2 : w.grownBy w' (some mb)) => show HoldPost w mb n D s fb (.returned (.tuple #[])) w' from ⟨rfl, h1, h2⟩)
  generalize HoldPost w mb n D s fb = post at *
  have HO := Lib.hid ho
  have HS := Lib.hid hs
  have hmn : ∀ w, (binOp .eql 55 (.map (some mb)) (.map none)).run Try.prog w = .ok (.bool false) w := fun w => run_eql_map_nil w _ 9 62 (some mb) Try.underlying55
  clear ho hs
  go_enter Try.func41, Try.ntmps41
  go_wp2_with (at_mapUpdate; refine wpList_mapUpdate_own _ rfl _ _ _ 55 rfl 9 62 keyStr Try.underlying55 ptrElem mb n D rfl HO.out (by unfold maxLen; omega) _ _ (kS s) rfl rfl (Go.WideMaps.keyOf_string_mk Try.underlying9 HS.out) (.lit (.int .i64 ((fb : Nat) : Int))) [] rfl ?_)
  intro w1 hown1 hgrow1
  have HQ := Lib.hid (HP.out w1 hown1 hgrow1)
  clear hown1 hgrow1 HP HO
  go_wp2
  go_end0
  exact HQ.out
/-- A name's blocks are the disk's no more. -/
def unname (ro : Nat → Role) (s : ByteArray) (b : Nat) : Role := match ro b with
  | .file t => if t = s then .none else .file t
  | .row t => if t = s then .none else .row t
  | r => r
theorem unname_other {ro : Nat → Role} {s : ByteArray} {b : Nat} (h : ro b ≠ .file s) (h2 : ro b ≠ .row s) : unname ro s b = ro b := by
  unfold unname
  cases hr : ro b with
  | file t => dsimp only; rw [if_neg]; intro e; subst e; exact h hr
  | row t => dsimp only; rw [if_neg]; intro e; subst e; exact h2 hr
  | _ => rfl
theorem unname_some {ro : Nat → Role} {s : ByteArray} {b : Nat} (h : unname ro s b ≠ .none) : unname ro s b = ro b ∧ ro b ≠ .file s ∧ ro b ≠ .row s := by
  unfold unname at *
  cases hr : ro b with
  | file t =>
    rw [hr] at h; dsimp only at h ⊢
    split at h
    · exact absurd rfl h
    · rename_i hne; rw [if_neg hne]; exact ⟨rfl, (fun e => by cases e; exact hne rfl), by simp⟩
  | row t =>
    rw [hr] at h; dsimp only at h ⊢
    split at h
    · exact absurd rfl h
    · rename_i hne; rw [if_neg hne]; exact ⟨rfl, by simp, (fun e => by cases e; exact hne rfl)⟩
  | none => exact ⟨rfl, by simp, by simp⟩
  | disk => exact ⟨rfl, by simp, by simp⟩
  | map => exact ⟨rfl, by simp, by simp⟩
  | arm => exact ⟨rfl, by simp, by simp⟩
theorem unname_id {ro : Nat → Role} {s : ByteArray} {b : Nat} {r : Role} (h : ro b = r) (h1 : r ≠ .file s) (h2 : r ≠ .row s) : unname ro s b = r := by rw [unname_other (by rw [h]; exact h1) (by rw [h]; exact h2), h]
theorem drop_none : ∀ {fs : Dsk.FS} {s : ByteArray}, get fs s = none → drop fs s = fs
  | [], s, _ => rfl
  | (t, g) :: r, s, h => by
    unfold Dsk.get at h
    split at h
    · cases h
    · rename_i hne; unfold Dsk.drop; rw [if_neg hne, drop_none h]
theorem ok_drop {S : St} (h : Ok S) (s : ByteArray) : Ok { S with fs := drop S.fs s } := by
  have hu := Dsk.used_drop S.fs s
  refine ⟨h.q0, h.qm, Dsk.Sorted.drop _ _ h.sorted, Nat.le_trans (Dsk.len_drop _ _) h.few, h.low, ?_, ?_, fun t f hf => ?_, h.arm⟩
  · have := h.fit; show ((used (drop S.fs s) : Nat) : Int) ≤ S.quota; omega
  · have := h.sum; show used (drop S.fs s) ≤ _; omega
  · by_cases e : t = s
    · subst e
      have := Dsk.get_drop_same S.fs t h.sorted
      rw [this] at hf; cases hf
    · rw [Dsk.get_drop_other _ _ _ e] at hf; exact h.file t f hf
def DropPost (w : World) (base db mb n : Nat) (D : DataW Unit) (av : Value) (ro : Nat → Role) (S : St) (s : ByteArray) (e : Ending) (w' : World) : Prop :=
  e = .returned (.tuple #[]) ∧ DiskIn w' base db mb n (D.del (kS s)) av (unname ro s) { S with fs := drop S.fs s } ∧ Ch w w' (fun b => b = db ∨ b = mb)
theorem del_none {D : DataW Unit} {s : ByteArray} (h : Maps.has D (kS s) = false) : D.del (kS s) = D := del_of_not_has h
set_option maxRecDepth 100000 in
set_option maxHeartbeats 1600000 in
theorem drop_any (w : World) (base db mb n : Nat) (D : DataW Unit) (av : Value) (ro : Nat → Role) (S : St) (s : ByteArray) (h : DiskIn w base db mb n D av ro S) (hs : s.size ≤ maxLen) :
    Calls Try.prog 46 #[.pointer (some ⟨db, 0, none⟩), .string s] w (DropPost w base db mb n D av ro S s) := by
  obtain ⟨_, c1, c2, _, _, _⟩ := h.cells
  have f2 := h.free 2
  have hum := h.ok.sum
  rcases h.look s hs with ⟨hg, hrun⟩ | ⟨f, fb, v, hg, hrun, hat, hfa⟩
  · have HQ := Lib.hid (show DropPost w base db mb n D av ro S s (.returned (.tuple #[])) w from by
      have hh := h.has s
      rw [hg] at hh
      refine ⟨rfl, ?_, Ch.refl _ _⟩
      rw [del_none hh, drop_none hg]
      have hro : ∀ b, (ro b = .disk ∨ ro b = .map ∨ ∃ t, ¬ t = s ∧ (ro b = .file t ∨ ro b = .row t)) → unname ro s b = ro b := fun b hb => by
        rcases hb with hb | hb | ⟨t, ht, hb | hb⟩
        · rw [unname_id hb (by simp) (by simp), hb]
        · rw [unname_id hb (by simp) (by simp), hb]
        · rw [unname_id hb (fun e => by cases e; exact ht rfl) (by simp), hb]
        · rw [unname_id hb (by simp) (fun e => by cases e; exact ht rfl), hb]
      refine h.turns (fun t => t = s) (Ch.refl w (fun _ => False)) (fun _ _ _ _ h => h) hro (fun b hb => by have := unname_some hb; exact h.old b (by rw [← this.1]; exact hb)) h.blk h.own h.bnd (fun _ _ => ⟨rfl, rfl⟩) (fun _ _ => rfl) (fun t e => by subst e; exact h.has t) (fun t e f hf => by subst e; rw [hg] at hf; cases hf) ?_ h.ok
      rcases h.arm with h1 | ⟨k, ab, h1, h2, h3, h4⟩
      · exact .inl h1
      · exact .inr ⟨k, ab, h1, h2, unname_id h3 (by simp) (by simp), h4⟩)
    generalize DropPost w base db mb n D av ro S s = post at *
    clear h hg
    go_enter Try.func46, Try.ntmps46
    go_wp2
    go_end0
    exact HQ.out
  · obtain ⟨hrow, hrr⟩ := And.intro hfa.row hfa.rrow
    have hfl := h.ok.file s f hg
    have hle := Dsk.len_le hg
    obtain ⟨A, cap, rfl⟩ : ∃ A cap, v = .slice A f.b.length cap := by
      rcases hrow.2 with ⟨e1, e2⟩ | ⟨g, cap, cur, e1, _⟩
      · exact ⟨none, 0, by rw [e1, e2]⟩
      · exact ⟨_, cap, e1⟩
    have hmd : mb ≠ db := fun e => by have := h.rmb; rw [e, h.rdb] at this; cases this
    have cf : w.cell? ⟨fb, 0, none⟩ = some (.slice A f.b.length cap) := by rw [blk_cell hfa.blk]; rfl
    obtain ⟨u, hu⟩ : ∃ u : Nat, u = used S.fs - f.b.length := ⟨_, rfl⟩
    have hud : used (drop S.fs s) = u := by have := Dsk.used_drop S.fs s; rw [hg] at this; simp only [Dsk.lenO] at this; omega
    have hsub : (used S.fs : Int) - (f.b.length : Int) = (u : Int) := by omega
    have HFIN := Lib.hid (fun (w1 : World) (ho : w1.ownsMap Try.prog 9 ptrElem mb n (D.del (kS s))) (hblk : w1.heap[db]? = some (.cells ((diskCells mb av S).setIfInBounds 2 (.int .i64 (u : Int))) 58 (0, 0))) (hc : Ch w w1 (fun b => b = db ∨ b = mb)) => show DropPost w base db mb n D av ro S s (.returned (.tuple #[])) w1 from by
      refine ⟨rfl, ?_, hc⟩
      have hro : ∀ b, (ro b = .disk ∨ ro b = .map ∨ ∃ t, ¬ t = s ∧ (ro b = .file t ∨ ro b = .row t)) → unname ro s b = ro b := fun b hb => by
        rcases hb with hb | hb | ⟨t, ht, hb | hb⟩
        · rw [unname_id hb (by simp) (by simp), hb]
        · rw [unname_id hb (by simp) (by simp), hb]
        · rw [unname_id hb (fun e => by cases e; exact ht rfl) (by simp), hb]
        · rw [unname_id hb (by simp) (fun e => by cases e; exact ht rfl), hb]
      refine h.turns (fun t => t = s) hc (fun b t _ hb hM => ?_) hro (fun b hb => by have := unname_some hb; have h2 := h.old b (by rw [← this.1]; exact hb); exact ⟨h2.1, Nat.lt_of_lt_of_le h2.2 hc.size⟩) ?_ ho h.bnd (fun t ht => ?_) (fun t ht => Dsk.get_drop_other _ _ _ ht) (fun t e => ?_) (fun t e f hf => ?_) ?_ (ok_drop h.ok s)
      · rcases hM with e | e
        · subst e; rw [h.rdb] at hb; rcases hb with hb | hb <;> cases hb
        · subst e; rw [h.rmb] at hb; rcases hb with hb | hb <;> cases hb
      · rw [hblk]
        show some (Obj.cells (diskCells mb av S |>.setIfInBounds 2 (.int .i64 (u : Int))) 58 (0, 0)) = some (.cells (diskCells mb av { S with fs := drop S.fs s }) 58 (0, 0))
        unfold diskCells
        rw [hud]
        rfl
      · have hne : kS t ≠ kS s := fun e => ht (kS_inj e)
        exact ⟨has_del_other hne, atKey_del_other hne _⟩
      · subst e
        rw [Dsk.get_drop_same _ _ h.ok.sorted]
        exact has_del_same
      · subst e; rw [Dsk.get_drop_same _ _ h.ok.sorted] at hf; cases hf
      · rcases h.arm with h1 | ⟨k, ab, h1, h2, h3, h4⟩
        · exact .inl h1
        · refine .inr ⟨k, ab, h1, h2, unname_id h3 (by simp) (by simp), hc.heap h4 fun hM => ?_⟩
          rcases hM with e | e
          · rw [e, h.rdb] at h3; cases h3
          · rw [e, h.rmb] at h3; cases h3)
    have HOWN := Lib.hid (fun (x : Value) => World.ownsMap.setCell h.own (a := ⟨db, 2, none⟩) hmd x)
    have HB := Lib.hid (blk_set h.blk 2 (.int .i64 (u : Int)))
    have HMD := Lib.hid hmd
    have c1' : (w.setCell ⟨db, 2, none⟩ (.int .i64 (u : Int))).cell? ⟨db, 1, none⟩ = some (.map (some mb)) := by rw [blk_cell HB.out]; rfl
    generalize DropPost w base db mb n D av ro S s = post at *
    have hwr : IntKind.i64.wrap ((used S.fs : Int) - (f.b.length : Int)) = (u : Int) := by rw [hsub]; exact IntWalk.i64_in _ (by omega)
    generalize used S.fs = uu at *
    clear h hg hat hfa hrow hrr hfl hle hud hsub hum hmd hu
    go_enter Try.func46, Try.ntmps46
    go_upto_region 2 with (fail)
    go_still_tail 12, (by kernel_rfl)
    change wpList _ _ _ _ _ w.drew
    go_wp2_with (at_delete; refine wpList_delete_own _ rfl _ _ 55 9 rfl 62 keyStr Try.underlying55 ptrElem mb n D rfl (World.ownsMap.drew (HOWN.out _)) _ (kS s) rfl (Go.WideMaps.keyOf_string_mk Try.underlying9 hs) ?_)
    intro w1 hown1 hturn1
    have HQ := Lib.hid (HFIN.out w1 hown1 ((hturn1.grown.block db (block_lt HB.out) (fun e => HMD.out (Option.some.inj e).symm)).trans HB.out) ((((Ch.refl w (fun b => b = db ∨ b = mb)).setCell (p := ⟨db, 2, none⟩) (.inl rfl) _).drew).grown hturn1.grown (fun k _ e => .inr (Option.some.inj e).symm)))
    clear hown1 hturn1 HFIN HOWN HB HMD
    go_wp2
    go_end0
    exact HQ.out
end Go.Proofs.Ytfgbaigpmhnoaaa
